/- What srh.ahead and srh.segments answer: what stands ahead of a routing header's parts. Condition: at most 2^47 bytes. -/
import Derived.Test.YtnfiijbnfmcpjaaSrC
import Derived.Test.YtnfiijbnfmcpjaaSlc
import Derived.OwnWalk
namespace Go.Proofs.Ytnfiijbnfmcpjaa
open Go.RowKit
set_option linter.unusedVariables false

def aheadF (xs : List Int) : Nat := if aheadR xs = 0 then fromR xs else 0
def aheadL (xs : List Int) : Nat := if aheadR xs = 0 then wideR xs else 0
theorem aheadFL_err {xs : List Int} {k : Int} (h : aheadR xs = k) (hk : k ≠ 0) : aheadF xs = 0 ∧ aheadL xs = 0 := by
  unfold aheadF aheadL
  rw [if_neg (by omega), if_neg (by omega)]
  exact ⟨rfl, rfl⟩
/-- nothing, and why -/
def GivesAh (w : World) (xs : List Int) (e : Ending) (w' : World) : Prop :=
  e = .returned (.tuple #[.int .i64 (aheadF xs), .int .i64 (aheadL xs), .int .i64 (aheadR xs)]) ∧ w' = w
theorem GivesAh.no {w : World} {xs : List Int} {k : Int} (h : aheadR xs = k) (hk : k ≠ 0) : GivesAh w xs (.returned (.tuple #[.int .i64 0, .int .i64 0, .int .i64 k])) w := by
  obtain ⟨h1, h2⟩ := aheadFL_err h hk
  refine ⟨?_, rfl⟩
  rw [h1, h2, h]
  rfl
theorem GivesAh.yes {w : World} {xs : List Int} {f l : Int} (h : aheadR xs = 0) (hf : (fromR xs : Int) = f) (hl : (wideR xs : Int) = l) : GivesAh w xs (.returned (.tuple #[.int .i64 f, .int .i64 l, .int .i64 0])) w := by
  refine ⟨?_, rfl⟩
  unfold aheadF aheadL
  rw [if_pos h, if_pos h, hf, hl, h]

set_option maxRecDepth 100000 in
set_option maxHeartbeats 1600000 in
theorem ahead10_any (A : Option Addr) (n c : Nat) (xs : List Int) (w : World) (hn : n ≤ 140737488355328) (hb : Bs w w.heap.size A n xs) :
    Calls Try.prog 25 #[.slice A n c] w (GivesAh w xs) := by
  have hlen := hb.len
  by_cases h8 : n < 8
  · have HA := Lib.hid (show aheadR xs = 3 by unfold aheadR; rw [if_pos (by omega)])
    clear hb hlen
    go_enter Try.func25, Try.ntmps25
    go_wp2_with fail
    go_ret3
    exact GivesAh.no HA.out (by omega)
  · obtain ⟨b, o, rfl, -, hc⟩ := hb.mem (by omega)
    have c1 := hc 1 (by omega)
    have c2 := hc 2 (by omega)
    have c3 := hc 3 (by omega)
    have c4 := hc 4 (by omega)
    obtain ⟨r1, r1'⟩ := hb.nonneg 1
    obtain ⟨r2, r2'⟩ := hb.nonneg 2
    obtain ⟨r3, r3'⟩ := hb.nonneg 3
    obtain ⟨r4, r4'⟩ := hb.nonneg 4
    have hw : (wideR xs : Int) = 8 * (xs.getD 1 0 + 1) := by unfold wideR; omega
    have hm : (manyR xs : Int) = xs.getD 4 0 + 1 := by unfold manyR; omega
    have hf : (fromR xs : Int) = 8 + 16 * (xs.getD 4 0 + 1) := by unfold fromR; omega
    have ha : aheadR xs = if n < wideR xs then 3 else if xs.getD 2 0 ≠ 4 then 7 else if 10 < manyR xs then 8 else if wideR xs < fromR xs ∨ (manyR xs : Int) ≤ xs.getD 3 0 then 5 else 0 := by unfold aheadR; rw [hlen, if_neg h8]
    clear hc hb
    have HW := Lib.hid hw
    have HF := Lib.hid hf
    generalize xs.getD 1 0 = x1 at *
    generalize xs.getD 2 0 = x2 at *
    generalize xs.getD 3 0 = x3 at *
    generalize xs.getD 4 0 = x4 at *
    by_cases hs : n < wideR xs
    · have HA := Lib.hid (ha.trans (if_pos hs))
      have hs' : (n : Int) < 8 * (x1 + 1) := by omega
      clear hlen ha hw hm hf hs
      go_enter Try.func25, Try.ntmps25
      go_wp2_with fail
      go_ret3
      exact GivesAh.no HA.out (by omega)
    · replace ha := ha.trans (if_neg hs)
      have hs' : ¬ (n : Int) < 8 * (x1 + 1) := by omega
      by_cases h4 : x2 = 4
      · replace ha := ha.trans (if_neg (by simpa using h4))
        subst h4
        by_cases h10 : 10 < manyR xs
        · have HA := Lib.hid (ha.trans (if_pos h10))
          have h10' : 10 < x4 + 1 := by omega
          clear hlen ha hw hm hf hs h10
          go_enter Try.func25, Try.ntmps25
          go_wp2_with fail
          go_ret3
          exact GivesAh.no HA.out (by omega)
        · replace ha := ha.trans (if_neg h10)
          have h10' : ¬ 10 < x4 + 1 := by omega
          by_cases hl : wideR xs < fromR xs
          · have HA := Lib.hid (ha.trans (if_pos (.inl hl)))
            have hl' : decide (8 * (x1 + 1) < 8 + 16 * (x4 + 1)) = true := by simp; omega
            clear hlen ha hw hm hf hs h10 hl
            go_enter Try.func25, Try.ntmps25
            go_wp2_with fail
            go_ret3
            exact GivesAh.no HA.out (by omega)
          · have hl' : decide (8 * (x1 + 1) < 8 + 16 * (x4 + 1)) = false := by simp; omega
            by_cases hg : (manyR xs : Int) ≤ x3
            · have HA := Lib.hid (ha.trans (if_pos (.inr hg)))
              have hg' : decide (x4 + 1 ≤ x3) = true := by simp; omega
              clear hlen ha hw hm hf hs h10 hl hg
              go_enter Try.func25, Try.ntmps25
              go_wp2_with fail
              go_ret3
              exact GivesAh.no HA.out (by omega)
            · have HA := Lib.hid (ha.trans (if_neg (by omega)))
              have hg' : decide (x4 + 1 ≤ x3) = false := by simp; omega
              clear hlen ha hw hm hf hs h10 hl hg
              go_enter Try.func25, Try.ntmps25
              go_wp2_with fail
              go_ret3
              exact GivesAh.yes HA.out HF.out HW.out
      · have HA := Lib.hid (ha.trans (if_pos h4))
        have h4' : (x2 != 4) = true := by simpa using h4
        clear hlen ha hw hm hf hs h4
        go_enter Try.func25, Try.ntmps25
        go_wp2_with fail
        go_ret3
        exact GivesAh.no HA.out (by omega)

/-- addresses of the call's own are handed back -/
def GivesAs (w : World) (l : List (List Int)) (e : Ending) (w' : World) : Prop :=
  ∃ A c, e = .returned (.slice A l.length c) ∧ OwnA 39 w' w.heap.size A l.length c l ∧ Below w.heap.size w w'
theorem GivesAs.of {w w' : World} {l l' : List (List Int)} {A : Option Addr} {n c : Nat} (h : l = l') (ho : OwnA 39 w' w.heap.size A n c l') (hB : Below w.heap.size w w') : GivesAs w l (.returned (.slice A n c)) w' := by
  subst h
  have hl := ho.2.2
  subst hl
  exact ⟨A, c, rfl, ho, hB⟩
/-- 16 bytes of a slice, and no room behind them -/
theorem slc_sixteen (b o n c : Nat) (h16 : 16 ≤ n) (hc : n ≤ c) (hc2 : c ≤ 9223372036854775807) :
    ∀ u, (Instr.sliceAt 28 (.slice (some ⟨b, o, none⟩) n c) none (some (.int .i64 16)) (some (.int .i64 16))).run Try.prog u = .ok (.slice (some ⟨b, o, none⟩) 16 16) u := by
  intro u
  have i1 : (16 : Int) ≤ c := by omega
  go_simp
theorem Bs.range {w : World} {B n b o : Nat} {xs : List Int} (h : Bs w B (some ⟨b, o, none⟩) n xs) (h16 : 16 ≤ n) : b < B ∧ w.rangeAt b o (cellsB (xs.take 16)) := by
  obtain ⟨b', o', e, hb, hc⟩ := h.mem (by omega)
  injection e with e
  injection e with e1 e2 _
  subst e1 e2
  refine ⟨hb, fun j v hv => ?_⟩
  have hl := h.len
  have hj : j < 16 := by
    have := (List.getElem?_eq_some_iff.1 hv).1
    rw [cellsB_length, List.length_take] at this
    omega
  rw [cellsB_get (by rw [List.length_take]; omega)] at hv
  rw [← hv, hc j (by omega)]
  simp [List.getD, hj]

theorem list16R (s : List Int) (h : s.length = 16) : ∃ s0 s1 s2 s3 s4 s5 s6 s7 s8 s9 s10 s11 s12 s13 s14 s15, s = [s0, s1, s2, s3, s4, s5, s6, s7, s8, s9, s10, s11, s12, s13, s14, s15] := by
  match s, h with
  | [s0, s1, s2, s3, s4, s5, s6, s7, s8, s9, s10, s11, s12, s13, s14, s15], _ => exact ⟨s0, s1, s2, s3, s4, s5, s6, s7, s8, s9, s10, s11, s12, s13, s14, s15, rfl⟩
theorem run_one_lit (s0 s1 s2 s3 s4 s5 s6 s7 s8 s9 s10 s11 s12 s13 s14 s15 : Int) (w : World) : (Instr.buildSlice 22 1 #[(0, .agg (cellsB [s0, s1, s2, s3, s4, s5, s6, s7, s8, s9, s10, s11, s12, s13, s14, s15]).toArray)]).run Try.prog w = .ok (.slice (some ⟨w.heap.size, 0, none⟩) 1 1) (w.alloc (.cells (cellsB [s0, s1, s2, s3, s4, s5, s6, s7, s8, s9, s10, s11, s12, s13, s14, s15]).toArray 39)) := by kernel_rfl
theorem run_one_addr (s : List Int) (hs : s.length = 16) (w : World) : (Instr.buildSlice 22 1 #[(0, .agg (cellsB s).toArray)]).run Try.prog w = .ok (.slice (some ⟨w.heap.size, 0, none⟩) 1 1) (w.alloc (.cells (cellsB s).toArray 39)) := by
  obtain ⟨s0, s1, s2, s3, s4, s5, s6, s7, s8, s9, s10, s11, s12, s13, s14, s15, rfl⟩ := list16R s hs
  exact run_one_lit _ _ _ _ _ _ _ _ _ _ _ _ _ _ _ _ w
theorem wpList_one_addr {ops : Array Oper} {rest : List Oper} {o : Oper} {a : Act} {w : World} {Q : Exit → Act → World → Prop} (hgd : o.guard = none) (x : Operand) (ho : o.op = .buildSlice 22 1 #[(0, x)]) (s : List Int) (hx : a.eval x = .agg (cellsB s).toArray) (hs : s.length = 16)
    (hk : ∀ w', Blk w' 39 w.heap.size s → Low w w' → w'.heap.size = w.heap.size + 1 → wpList Try.prog ops Q rest (a.put o.dst (.slice (some ⟨w.heap.size, 0, none⟩) 1 1)) w') : wpList Try.prog ops Q (o :: rest) a w :=
  wpList_plain hgd fun K hK => by
    unfold Oper.wp execOp
    simp only [ho, List.map_toArray, List.map_cons, List.map_nil, hx, Sem.run_bind, run_one_addr s hs, Result.andThen_ok, Sem.run_pure]
    exact hK _ _ (hk _ (Blk.new w _ s) (Low.alloc w _) (by simp))
theorem run_sixteenR (b o : Nat) (u : World) : (Instr.arrayAt 39 (.slice (some ⟨b, o, none⟩) 16 16)).run Try.prog u = .ok (.pointer (some ⟨b, o, none⟩)) u := by kernel_rfl
def roomR : Value → Nat
  | .slice _ m _ => m
  | _ => 0

set_option maxRecDepth 100000 in
set_option maxHeartbeats 1600000 in
theorem segments_any (A : Option Addr) (n c k : Nat) (xs : List Int) (w : World) (hk : k ≤ 10) (hn : n = k * 16) (hc : n ≤ c) (hc2 : c ≤ 9223372036854775807) (hb : Bs w w.heap.size A n xs) :
    Calls Try.prog 28 #[.slice A n c] w (GivesAs w (chunksR k xs)) := by
  obtain ⟨i0, hi, hz0, hz1, hz2⟩ := info_parts info_addrR
  have hlen := hb.len
  have hdiv : (n : Int) / 16 = (k : Nat) := by omega
  have hB0 := Lib.hid hb
  have HN := Lib.hid hn
  have hn160 : n ≤ 160 := by omega
  clear hb hlen hn
  go_enter Try.func28, Try.ntmps28
  go_wp2_with (refine wpList_make_own w rfl (.const (.int .i64 0)) (.tmp 7) 22 rfl w.heap.size 39 i0 (addrV zero16) 16 Try.underlying22 hi hz0 hz1 .i64 .i64 (k : Int) k rfl rfl rfl (by rw [hz2]; omega) (by simp only [maxLen]; omega) (Nat.le_refl _) ?_; intro w1 hr1 hg1; refine Hid.out ?_)
  refine Lib.hid ?_
  have HR1 : Hid (OwnA 39 w1 w.heap.size (some ⟨w.heap.size, 0, none⟩) 0 k []) := Lib.hid ⟨hr1, AllA.nil, rfl⟩
  have HB1 := Lib.hid ((Below.refl w.heap.size w).grown hg1 (Nat.le_refl _) (fun k e => by cases e))
  have HZ1 := Lib.hid hg1.size
  clear hr1 hg1
  go_wp2_with fail
  go_loopw [0, 3] (fun b l wr => ∃ j bA m bc A' c', j ≤ k ∧ b = .slice bA m bc ∧ l = .slice A' j c' ∧ Hid (m = (k - j) * 16) ∧ m ≤ 160 ∧ m ≤ bc ∧ bc ≤ 9223372036854775807 ∧ Hid (Bs w w.heap.size bA m (xs.drop (j * 16))) ∧ OwnA 39 wr w.heap.size A' j c' (chunksR j xs) ∧ Below w.heap.size w wr ∧ w.heap.size ≤ wr.heap.size) (fun b _ _ => roomR b)
  case atStart => exact ⟨0, A, n, c, _, k, Nat.zero_le _, rfl, rfl, Lib.hid (by rw [HN.out]; omega), hn160, hc, hc2, Lib.hid (by simpa using hB0.out), HR1.out, HB1.out, HZ1.out⟩
  case round =>
    clear HR1 HB1 HZ1
    obtain ⟨j, bA, m, bc, A', c', hj, rfl, rfl, HM, hm, hbc, hbc2, HBS, hown, hbr, hzr⟩ := hrel
    by_cases hjk : j < k
    · have hm16 : 16 ≤ m := by have := HM.out; omega
      obtain ⟨b, o, rfl, -, -⟩ := HBS.out.mem (by omega)
      obtain ⟨hbl, hr⟩ := HBS.out.range hm16
      have hx16 : ((xs.drop (j * 16)).take 16).length = 16 := by rw [List.length_take, HBS.out.len]; omega
      have hxa := HBS.out.all.take 16
      have HCS := Lib.hid (chunksR_succ j xs)
      have HSL := Lib.hid (slc_sixteen b o m bc hm16 hbc hbc2)
      obtain ⟨A2, hsl2, hA2⟩ := slc_from b o m bc 16 16 hbc rfl hm16
      have HSL2 := Lib.hid hsl2
      have HB2 := Lib.hid (HBS.out.cutFrom hm16 hA2)
      generalize (xs.drop (j * 16)).take 16 = x at *
      have HR := Lib.hid (rangeAt_below hr hbr hbl)
      have HO := Lib.hid hown
      have HBR := Lib.hid hbr
      have HXA := Lib.hid hxa
      clear hr hxa hown hbr hsl2 hA2
      go_wp2_with (refine slc_wp rfl _ (.tmp 12) none (some (.const (.int .i64 16))) (some (.const (.int .i64 16))) rfl _ (HSL.out wr) ?_; refine Hid.out ?_)
      refine Lib.hid ?_
      have harr := run_sixteenR b o wr
      go_wp2_with (first | (with_reducible refine wpList_load_at rfl (.tmp 16) rfl b o rfl x hx16 HR.out ?_) | (with_reducible refine wpList_one_addr rfl (.tmp 17) rfl x rfl hx16 ?_; intro w2 HK hl2 hz2; refine Hid.out ?_))
      refine Lib.hid ?_
      have hown0 := HO.out.below hl2
      have hlt2 := hown0.lt
      have hsrc := As.of_blk (B := w2.heap.size) HK hx16 HXA.out (by omega)
      have HB3 := Lib.hid (HBR.out.trans (hl2.mono hzr))
      have hz3 : w.heap.size ≤ w2.heap.size := by omega
      clear HK hl2 hz2 HO HBR harr
      go_wp2_with (at_builtin; refine wpList_append_as rfl _ _ 22 rfl w.heap.size 39 i0 Try.underlying22 hi hz0 hz1 hz2 A' j c' (chunksR j xs) rfl hown0 _ 1 1 w2.heap.size [x] rfl hsrc (by omega) hz3 ?_; intro A3 c3 w3 hown3 hgr hob; refine Hid.out ?_)
      refine Lib.hid ?_
      have hb3 := HB3.out.grown hgr hz3 fun k e => (hlt2 k e).1
      have hz4 := Nat.le_trans hz3 hgr.size
      rw [← HCS.out] at hown3
      have HOW := Lib.hid hown3
      have hm2 : m - 16 ≤ 160 := by omega
      have hbc3 : m - 16 ≤ bc - 16 := by omega
      have hbc4 : bc - 16 ≤ 9223372036854775807 := by omega
      have HM2 := Lib.hid (show m - 16 = (k - (j + 1)) * 16 by have := HM.out; omega)
      have HBS2 := Lib.hid (show Bs w w.heap.size A2 (m - 16) (xs.drop ((j + 1) * 16)) by
        have := HB2.out
        rw [List.drop_drop] at this
        rw [show (j + 1) * 16 = j * 16 + 16 by omega]
        exact this)
      clear hgr hob hown3 hown0 hsrc
      go_wp2_with (refine slc_wp rfl _ (.tmp 20) (some (.const (.int .i64 16))) none none rfl _ (HSL2.out w3) ?_; refine Hid.out ?_)
      refine Lib.hid ?_
      go_wp2_with fail
      exact ⟨⟨j + 1, A2, m - 16, bc - 16, A3, c3, by omega, rfl, rfl, HM2.out, hm2, hbc3, hbc4, HBS2.out, HOW.out, hb3, hz4⟩, by simp [roomR]; omega⟩
    · obtain rfl : j = k := by omega
      obtain rfl : m = 0 := by have := HM.out; omega
      have HO := Lib.hid hown
      have HBR := Lib.hid hbr
      clear hown hbr
      go_wp2_with fail
      go_ret
      exact GivesAs.of rfl HO.out HBR.out
end Go.Proofs.Ytnfiijbnfmcpjaa
