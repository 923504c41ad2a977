/- Stage 20: versions in memory; the document's May, and its Ints. Conditions: the list is as kept ones always are; tables of at most 2^44 numbers. -/
import Derived.Test.YtedldebomoplmaaHiA
import Derived.Test.YtedldebomoplmaaObj
import Derived.Test.YtedldebomoplmaaJReg
import Derived.BigQuiet
import Derived.Deep.MidRow
set_option maxRecDepth 100000
namespace Go.Proofs.Ytedldebomoplmaa
open Go.RowKit
set_option linter.unusedVariables false

/-- a version as it lies -/
structure Vd where
  n : Int
  f : Int
  u : Int
  A : Option Addr
  k : Nat
  c : Nat
  t : List Int
def Vd.v (x : Vd) : Vb := ⟨x.n, x.f, x.u, x.t⟩
def zeroVd : Vd := ⟨0, 0, 0, none, 0, 0, []⟩
def vdC (x : Vd) : List Value := [.int .i64 x.n, .int .i64 x.f, .int .i64 x.u, .slice x.A x.k x.c]
/-- versions in a slice -/
def verE : Elt Vd := ⟨vdC, fun _ => True, 4, by decide, fun _ _ => rfl, fun a u hu => by
  simp only [vdC, List.mem_cons, List.not_mem_nil, or_false] at hu
  rcases hu with rfl | rfl | rfl | rfl <;> rfl, zeroVd, trivial⟩
theorem verE_all (l : List Vd) : verE.all l := fun _ _ => trivial
theorem vdC_one (x : Vd) : (vdC x).toArray.all (·.oneCell') = true := by simp [vdC, Value.oneCell']
theorem getD_vb (l : List Vd) (i : Nat) : (l.map Vd.v).getD i zeroVb = (l.getD i zeroVd).v := by
  simp only [List.getD, List.getElem?_map]
  cases l[i]? <;> rfl
/-- versions in a slice, with their tables, of at most m numbers each, all outside F -/
structure Vs (F : Nat → Prop) (m : Nat) (w : World) (A : Option Addr) (n : Nat) (l : List Vd) : Prop where
  row : Es verE w w.heap.size A n l
  off : offA F A n
  tab : ∀ x ∈ l, Ns w w.heap.size x.A x.k x.t ∧ offA F x.A x.k ∧ x.k ≤ x.c ∧ x.k ≤ m
section
variable {F F' : Nat → Prop} {m n : Nat} {w w' : World} {A : Option Addr} {l : List Vd}
theorem Vs.nil (F : Nat → Prop) (m : Nat) (w : World) (A : Option Addr) : Vs F m w A 0 [] := ⟨Es.nil _ _ _, offA.nil _ _, fun x hx => by cases hx⟩
theorem Vs.low (h : Vs F m w A n l) (hl : Low w w') : Vs F m w' A n l := ⟨h.row.low hl, h.off, fun x hx => ⟨(h.tab x hx).1.below' hl hl.size, (h.tab x hx).2⟩⟩
theorem Vs.out (h : Vs F m w A n l) (hO : Out F w w') (hg : Grow F F' w) : Vs F' m w' A n l :=
  ⟨h.row.out h.off hO, h.off.growE hg h.row, fun x hx => ⟨(h.tab x hx).1.out (h.tab x hx).2.1 hO, (h.tab x hx).2.1.grow hg (h.tab x hx).1, (h.tab x hx).2.2⟩⟩
theorem Vs.len (h : Vs F m w A n l) : l.length = n := h.row.len
theorem Vs.plain (h : Vs F m w A n l) : Vs (fun _ => False) m w A n l := ⟨h.row, offA.none_ _ _, fun x hx => ⟨(h.tab x hx).1, offA.none_ _ _, (h.tab x hx).2.2⟩⟩
theorem Vs.at_ (h : Vs F m w A n l) {i : Nat} (hi : i < n) : ∃ b o, A = some ⟨b, o, none⟩ ∧ b < w.heap.size ∧ w.rangeAt b (o + i * 4) (vdC (l.getD i zeroVd)) ∧
    Ns w w.heap.size (l.getD i zeroVd).A (l.getD i zeroVd).k (l.getD i zeroVd).t ∧ offA F (l.getD i zeroVd).A (l.getD i zeroVd).k ∧ (l.getD i zeroVd).k ≤ (l.getD i zeroVd).c ∧ (l.getD i zeroVd).k ≤ m := by
  have hl := h.row.len
  have hm : l.getD i zeroVd ∈ l := by
    have e : l.getD i zeroVd = l[i]'(by omega) := by simp [List.getD, show i < l.length by omega]
    rw [e]
    exact List.getElem_mem _
  obtain ⟨b, o, rfl, hb, _⟩ := h.row.mem (by omega)
  exact ⟨b, o, rfl, hb, (h.row.at_ hi).2, h.tab _ hm⟩
theorem ver_cells {b p : Nat} {x : Vd} (h : w.rangeAt b p (vdC x)) : w.cell? ⟨b, p, none⟩ = some (.int .i64 x.n) ∧ w.cell? ⟨b, p + 1, none⟩ = some (.int .i64 x.f) ∧ w.cell? ⟨b, p + 2, none⟩ = some (.int .i64 x.u) ∧ w.cell? ⟨b, p + 3, none⟩ = some (.slice x.A x.k x.c) :=
  ⟨h 0 _ rfl, h 1 _ rfl, h 2 _ rfl, h 3 _ rfl⟩
end
theorem rver_size : (Try.prog.info? 57).map (·.size) = some 4 := by kernel_rfl
theorem rver_zero : (Try.prog.info? 57).map (·.zero) = some (some (.agg (vdC zeroVd).toArray)) := by kernel_rfl
theorem info_rver : (Try.prog.info? 57).map (fun i => (i.zero, i.size, i.bytes)) = some (some (.agg #[.int .i64 0, .int .i64 0, .int .i64 0, .slice none 0 0]), 4, 48) := by kernel_rfl
theorem info_rver_parts : ∃ i, Try.prog.info? 57 = some i ∧ i.zero = some (.agg #[.int .i64 0, .int .i64 0, .int .i64 0, .slice none 0 0]) ∧ i.size = 4 ∧ i.bytes = 48 := by
  have h := info_rver
  cases hi : Try.prog.info? 57 with
  | none => simp [hi] at h
  | some i =>
    simp [hi] at h
    exact ⟨i, rfl, h.1, h.2.1, h.2.2⟩

set_option maxHeartbeats 1600000 in
theorem rmayH_any (A : Option Addr) (n c : Nat) (l : List Vd) (last now : Int) (m : Nat) (w : World) (hv : Vs (fun _ => False) m w A n l) (hr : RightH (l.map Vd.v) last) (hn : i64ok now) :
    Calls Try.prog 21 #[.slice A n c, .int .i64 now] w fun e w' => e = .returned (.int .i64 (mayH (l.map Vd.v) now)) ∧ w = w' := by
  have hl := hv.len
  have h4 : n ≤ 4 := by have := hr.few; rw [List.length_map] at this; omega
  unfold i64ok at hn
  by_cases h0 : now < 0
  · have HE := Lib.hid (show mayH (l.map Vd.v) now = 2 by unfold mayH; rw [if_pos (.inl h0)])
    go_enter Try.func21, Try.ntmps21
    go_wp2_with fail
    go_ret
    exact ⟨by rw [HE.out]; rfl, rfl⟩
  · by_cases hz : n = 0
    · subst hz
      have HE := Lib.hid (show mayH (l.map Vd.v) now = 0 by
        unfold mayH
        rw [if_neg (by rw [List.length_map]; omega), if_neg (by rw [List.length_map]; omega)])
      go_enter Try.func21, Try.ntmps21
      go_wp2_with fail
      go_ret
      exact ⟨by rw [HE.out]; rfl, rfl⟩
    · obtain ⟨y, rfl⟩ : ∃ y, n = y + 1 := ⟨n - 1, by omega⟩
      obtain ⟨b, o, rfl, _, hc, _⟩ := hv.at_ (i := y) (by omega)
      obtain ⟨b0, o0, e0, _, hc0, _⟩ := hv.at_ (i := 0) (by omega)
      injection e0 with e0
      injection e0 with e1 e2 _
      subst e1 e2
      have q1 := (ver_cells hc).2.1
      have q2 := (ver_cells hc0).2.2.1
      have hM := Lib.hid (show mayH (l.map Vd.v) now = if now < 0 ∨ (0 < y + 1 ∧ now < (l.getD y zeroVd).f) then 2 else if y + 1 = 4 ∧ now - (l.getD 0 zeroVd).u < 16 then 11 else 0 by
        unfold mayH
        rw [List.length_map, hl, getD_vb, getD_vb]
        rfl)
      have hU := fun h3 : y = 3 => by
        have a1 := hr.until_ 0 (by rw [List.length_map]; omega)
        have a2 := hr.from_ 1 (by rw [List.length_map]; omega)
        rw [getD_vb, getD_vb] at a1
        rw [getD_vb] at a2
        exact show 0 ≤ (l.getD 0 zeroVd).u ∧ (l.getD 0 zeroVd).u ≤ 9223372036854775807 from by
          have a1' : (l.getD 0 zeroVd).u = (l.getD 1 zeroVd).f := a1
          have a2' : 0 ≤ (l.getD 1 zeroVd).f ∧ (l.getD 1 zeroVd).f ≤ 9223372036854775807 := a2
          omega
      have HU := Lib.hid hU
      clear hU hc hc0 hr hv
      generalize mayH (l.map Vd.v) now = r at *
      generalize (l.getD y zeroVd).f = fy at *
      generalize (l.getD 0 zeroVd).u = u0 at *
      have y1 : ((y + 1 : Nat) : Int) - 1 = y := by omega
      have y2 : (y : Int) < ((y + 1 : Nat) : Int) := by omega
      have y3 : (0 : Int) < ((y + 1 : Nat) : Int) := by omega
      by_cases hf : now < fy
      · have HE := Lib.hid (show r = 2 by rw [hM.out, if_pos (.inr ⟨by omega, hf⟩)])
        clear hM hl HU q2
        go_enter Try.func21, Try.ntmps21
        go_wp2_with fail
        go_ret
        exact ⟨by rw [HE.out]; rfl, rfl⟩
      · by_cases h3 : y = 3
        · subst h3
          have hu := HU.out rfl
          by_cases hb : now - u0 < 16
          · have HE := Lib.hid (show r = 11 by rw [hM.out, if_neg (by omega), if_pos ⟨rfl, hb⟩])
            clear hM hl HU
            go_enter Try.func21, Try.ntmps21
            go_wp2_with fail
            go_ret
            exact ⟨by rw [HE.out]; rfl, rfl⟩
          · have HE := Lib.hid (show r = 0 by rw [hM.out, if_neg (by omega), if_neg (by omega)])
            clear hM hl HU
            go_enter Try.func21, Try.ntmps21
            go_wp2_with fail
            go_ret
            exact ⟨by rw [HE.out]; rfl, rfl⟩
        · have HE := Lib.hid (show r = 0 by rw [hM.out, if_neg (by omega), if_neg (by omega)])
          have h5 : ¬ ((y + 1 : Nat) : Int) = 4 := by omega
          clear hM hl HU q2
          go_enter Try.func21, Try.ntmps21
          go_wp2_with fail
          go_ret
          exact ⟨by rw [HE.out]; rfl, rfl⟩
end Go.Proofs.Ytedldebomoplmaa
