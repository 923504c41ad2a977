/- Stage 20: the program's own history: the versions that stay beside a new one. Condition: at most four versions. -/
import Derived.Test.YtedldebomoplmaaHiN
import Derived.Test.YtedldebomoplmaaStc
set_option maxRecDepth 100000
namespace Go.Proofs.Ytedldebomoplmaa
open Go.RowKit
set_option linter.unusedVariables false

/-- the newest one's time is over -/
def endD (now : Int) (l : List Vd) : List Vd := l.set (l.length - 1) { l.getD (l.length - 1) zeroVd with u := now }
def stayD (now : Int) (l : List Vd) : List Vd := endD now (if l.length = 4 then l.drop 1 else l)
theorem endD_len (now : Int) (l : List Vd) : (endD now l).length = l.length := by unfold endD; rw [List.length_set]
theorem stayD_map (now : Int) (ld : List Vd) (h : ld.length ≤ 4) (last : Int) (t : List Int) : pushH (ld.map Vd.v) last now t = (stayD now ld).map Vd.v ++ [⟨last + 1, now, -1, t⟩] := by
  rw [pushH_eq]
  congr 1
  rcases ld with _ | ⟨a, _ | ⟨b, _ | ⟨c, _ | ⟨d, _ | ⟨e, r⟩⟩⟩⟩⟩
  all_goals first | rfl | simp at h
theorem stayD_mem {now : Int} {ld : List Vd} {x : Vd} (h : x ∈ stayD now ld) : ∃ y ∈ ld, x.A = y.A ∧ x.k = y.k ∧ x.c = y.c ∧ x.t = y.t := by
  have key : ∀ l : List Vd, (∀ y ∈ l, y ∈ ld) → x ∈ endD now l → ∃ y ∈ ld, x.A = y.A ∧ x.k = y.k ∧ x.c = y.c ∧ x.t = y.t := by
    intro l hl hx
    unfold endD at hx
    rcases Nat.eq_zero_or_pos l.length with h0 | h0
    · obtain rfl : l = [] := List.eq_nil_of_length_eq_zero h0
      cases hx
    · rcases List.mem_or_eq_of_mem_set hx with h1 | h1
      · exact ⟨x, hl x h1, rfl, rfl, rfl, rfl⟩
      · have hm : l.getD (l.length - 1) zeroVd ∈ l := by
          have e : l.getD (l.length - 1) zeroVd = l[l.length - 1] := by simp [List.getD, show l.length - 1 < l.length by omega]
          rw [e]
          exact List.getElem_mem _
        exact ⟨_, hl _ hm, by rw [h1], by rw [h1], by rw [h1], by rw [h1]⟩
  unfold stayD at h
  split at h
  · exact key _ (fun y hy => List.mem_of_mem_drop hy) h
  · exact key _ (fun y hy => hy) h
theorem size_hver : ∀ u, (Go.sizeOf 37).run Try.prog u = .ok 4 u := fun u => by kernel_rfl

set_option maxRecDepth 100000 in
set_option maxHeartbeats 3200000 in
theorem hstaying_any (g : Nat) (A : Option Addr) (n c : Nat) (ld : List Vd) (now : Int) (w : World) (hn : n ≤ 4) (hnc : n ≤ c) (hc : w.cell? ⟨g, 1, none⟩ = some (.slice A n c)) (hb : Es verE w w.heap.size A n ld) :
    Calls Try.prog 20 #[.pointer (some ⟨g, 0, none⟩), .int .i64 now] w fun e w' => ∃ D d, e = .returned (.slice D (stayD now ld).length d) ∧ OwnE verE 37 w' w.heap.size D (stayD now ld).length d (stayD now ld) ∧ Low w w' := by
  obtain ⟨L, hL⟩ : ∃ L, L = if ld.length = 4 then ld.drop 1 else ld := ⟨_, rfl⟩
  obtain ⟨m, hm⟩ : ∃ m, m = L.length := ⟨_, rfl⟩
  have hsl : (stayD now ld).length = m := by unfold stayD; rw [← hL, endD_len, hm]
  have hse : stayD now ld = endD now L := by unfold stayD; rw [← hL]
  rw [hsl, hse]
  have hm4 : m ≤ 4 := by
    rw [hm, hL]
    have := hb.len
    split
    · rw [List.length_drop]; omega
    · omega
  have key : ∀ (T : Option Addr) (d : Nat) (hT : Es verE w w.heap.size T m L) (hgo : (T = A ∧ m = n ∧ d = c ∧ ¬ (m : Int) = 4) ∨ ((n : Int) = 4 ∧ ∀ u, (Instr.sliceAt 44 (.slice A n c) (some (.int .i64 1)) none none).run Try.prog u = .ok (.slice T m d) u)),
      Calls Try.prog 20 #[.pointer (some ⟨g, 0, none⟩), .int .i64 now] w fun e w' => ∃ D d, e = .returned (.slice D m d) ∧ OwnE verE 37 w' w.heap.size D m d (endD now L) ∧ Low w w' := by
    intro T d hT hgo
    have HCL := Lib.hid (vcloneH_any T m d L w (by omega) hT)
    have HM := Lib.hid hm
    clear hT hm hsl hse hL hb hnc hn
    have hfz : ∀ (b k : Nat) (cs : Array Value) (y : World), y.heap[b]? = some (.cells cs 37 (0, 0)) → y.frozen? ⟨b, k, none⟩ = false := fun b k cs y h => by simp [World.frozen?, h]
    have HFZ := Lib.hid hfz
    clear hfz
    rcases hgo with ⟨hA, hnm, hcd, h4⟩ | ⟨h4, hsl⟩
    · subst hA hnm hcd
      go_enter Try.func20, Try.ntmps20
      go_wp2_with fail
      refine HCL.out.mono ?_
      rintro e w2 ⟨D, d', rfl, hO, hl⟩
      have HO := Lib.hid hO
      have HL := Lib.hid hl
      clear hO hl hc
      by_cases h0 : m = 0
      · have HE := Lib.hid (show endD now L = L by
          unfold endD
          obtain rfl : L = [] := List.eq_nil_of_length_eq_zero (by rw [← HM.out, h0])
          rfl)
        subst h0
        go_wp2_with fail
        go_ret
        exact ⟨D, d', rfl, by rw [HE.out]; exact HO.out, HL.out⟩
      · obtain ⟨j, rfl⟩ : ∃ j, m = j + 1 := ⟨m - 1, by omega⟩
        obtain ⟨gr, rfl, hgr, hglt, cs, hcs⟩ := HO.out.formE (by omega)
        obtain ⟨u, hu⟩ := HO.out.inCell (i := j * 4 + 2) (show j * 4 + 2 < (j + 1) * 4 by omega)
        have hff := HFZ.out gr (j * 4 + 2) cs w2 hcs
        have HG := Lib.hid hgr
        have y1 : ((j + 1 : Nat) : Int) - 1 = j := by omega
        have y2 : (j : Int) < ((j + 1 : Nat) : Int) := by omega
        have y3 : (0 : Int) < ((j + 1 : Nat) : Int) := by omega
        have HX : Hid (verE.cells { L.getD j zeroVd with u := now } = (verE.cells (L.getD j verE.zero)).set 2 (.int .i64 now)) := Lib.hid rfl
        have HO3 := Lib.hid (HO.out.setAt (i := j) (j := 2) (v := .int .i64 now) (x := { L.getD j zeroVd with u := now }) (Nat.lt_succ_self _) (by decide) trivial HX.out)
        have HE := Lib.hid (show endD now L = L.set j { L.getD j zeroVd with u := now } by unfold endD; rw [← HM.out]; rfl)
        clear hcs hgr h0
        go_wp2_with fail
        go_ret
        exact ⟨_, d', rfl, by rw [HE.out]; exact HO3.out, HL.out.setCell (p := ⟨gr, j * 4 + 2, none⟩) HG.out _⟩
    · go_enter Try.func20, Try.ntmps20
      go_wp2_with fail
      refine HCL.out.mono ?_
      rintro e w2 ⟨D, d', rfl, hO, hl⟩
      have HO := Lib.hid hO
      have HL := Lib.hid hl
      clear hO hl hc
      by_cases h0 : m = 0
      · have HE := Lib.hid (show endD now L = L by
          unfold endD
          obtain rfl : L = [] := List.eq_nil_of_length_eq_zero (by rw [← HM.out, h0])
          rfl)
        subst h0
        go_wp2_with fail
        go_ret
        exact ⟨D, d', rfl, by rw [HE.out]; exact HO.out, HL.out⟩
      · obtain ⟨j, rfl⟩ : ∃ j, m = j + 1 := ⟨m - 1, by omega⟩
        obtain ⟨gr, rfl, hgr, hglt, cs, hcs⟩ := HO.out.formE (by omega)
        obtain ⟨u, hu⟩ := HO.out.inCell (i := j * 4 + 2) (show j * 4 + 2 < (j + 1) * 4 by omega)
        have hff := HFZ.out gr (j * 4 + 2) cs w2 hcs
        have HG := Lib.hid hgr
        have y1 : ((j + 1 : Nat) : Int) - 1 = j := by omega
        have y2 : (j : Int) < ((j + 1 : Nat) : Int) := by omega
        have y3 : (0 : Int) < ((j + 1 : Nat) : Int) := by omega
        have HX : Hid (verE.cells { L.getD j zeroVd with u := now } = (verE.cells (L.getD j verE.zero)).set 2 (.int .i64 now)) := Lib.hid rfl
        have HO3 := Lib.hid (HO.out.setAt (i := j) (j := 2) (v := .int .i64 now) (x := { L.getD j zeroVd with u := now }) (Nat.lt_succ_self _) (by decide) trivial HX.out)
        have HE := Lib.hid (show endD now L = L.set j { L.getD j zeroVd with u := now } by unfold endD; rw [← HM.out]; rfl)
        clear hcs hgr h0
        go_wp2_with fail
        go_ret
        exact ⟨_, d', rfl, by rw [HE.out]; exact HO3.out, HL.out.setCell (p := ⟨gr, j * 4 + 2, none⟩) HG.out _⟩
  by_cases h4 : n = 4
  · obtain ⟨T, d, hs, hT⟩ := es_from (E := verE) Try.underlying44 size_hver A n c 1 1 ld hb hnc rfl (by omega)
    have h5 : ld.length = 4 := by have := hb.len; omega
    rw [if_pos h5] at hL
    have h6 : n - 1 = m := by rw [hm, hL, List.length_drop]; omega
    rw [h6, ← hL] at hT
    rw [h6] at hs
    exact key T d hT (.inr ⟨by omega, hs⟩)
  · have h5 : ¬ ld.length = 4 := by have := hb.len; omega
    rw [if_neg h5] at hL
    subst hL
    have h6 : n = m := by rw [hm]; exact hb.len.symm
    subst h6
    exact key A c hb (.inl ⟨rfl, rfl, rfl, by omega⟩)
end Go.Proofs.Ytedldebomoplmaa
