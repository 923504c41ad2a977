/- What the document's own Parse answers: the options of bytes. Condition: at most 40 bytes where they are gone over. -/
import Derived.Test.YtkbgfddicpnbmaaTpJ
import Derived.Test.YtkbgfddicpnbmaaReg3
namespace Go.Proofs.Ytkbgfddicpnbmaa
open Go.RowKit
set_option linter.unusedVariables false

section
variable {P : Program} {ops : Array Oper} {Q : Exit → Act → World → Prop} {S : World → Prop}
/-- an operation that comes up alone, by its run -/
theorem walkS_run {i : Nat} {r : Plan} {d : Option Tmp} {op : Op} {t : TypeId} {pos : String} {aft : Array Edge} {g : Option (Nat × Bool)} {v : Value} {a : Act} {w w' : World} (hi : ops[i]? = some ⟨d, op, t, pos, aft, g⟩)
    (hw : Region.wanted ⟨d, op, t, pos, #[], g⟩ (yielded ops a.tmps) = true)
    (hv : (execOp a.eval ⟨d, op, t, pos, #[], g⟩).run P w = .ok (.value v) w') (hS : S w') (h : walkS P ops Q S r (a.put d v) w') : walkS P ops Q S (.act i r) a w :=
  walkS_act hi hw fun K hK => by
    unfold Oper.wp
    rw [hv]
    exact hK _ _ hS h
/-- one that stores -/
theorem walkS_put {i : Nat} {r : Plan} {d : Option Tmp} {op : Op} {t : TypeId} {pos : String} {aft : Array Edge} {g : Option (Nat × Bool)} {a : Act} {w w' : World} (hi : ops[i]? = some ⟨d, op, t, pos, aft, g⟩)
    (hw : Region.wanted ⟨d, op, t, pos, #[], g⟩ (yielded ops a.tmps) = true)
    (hv : (execOp a.eval ⟨d, op, t, pos, #[], g⟩).run P w = .ok .skip w') (hS : S w') (h : walkS P ops Q S r (a.put d undef) w') : walkS P ops Q S (.act i r) a w :=
  walkS_act hi hw fun K hK => by
    unfold Oper.wp
    rw [hv]
    exact hK _ _ hS h
end
theorem getD_drop (xs : List Int) (p i : Nat) : (xs.drop p).getD i 0 = xs.getD (p + i) 0 := by simp [List.getD, List.getElem?_drop]
theorem zeros_drop_false {xs : List Int} {p k : Nat} (hp : p ≤ k) (hk : k < xs.length) (h : xs.getD k 0 ≠ 0) : zerosB (xs.drop p) = false :=
  zerosB_false (k := k - p) (by rw [List.length_drop]; omega) (by rw [getD_drop, show p + (k - p) = k by omega]; exact h)
theorem zeros_drop_true {xs : List Int} {p : Nat} (h : ∀ k, p ≤ k → k < xs.length → xs.getD k 0 = 0) : zerosB (xs.drop p) = true :=
  zerosB_true fun j hj => by rw [getD_drop]; rw [List.length_drop] at hj; exact h _ (by omega) (by omega)

section
variable (A : Option Addr) (n c : Nat) (xs : List Int) (w : World)

set_option maxHeartbeats 800000 in
theorem rest_end (f p : Nat) (hn : n ≤ 140737488355328) (hb : Bs w w.heap.size A n xs) (hp : n ≤ p) (hp2 : p ≤ 140737488355328) : Calls Try.prog 67 #[.slice A n c, .int .i64 p] w (GivesO w (parseO f (xs.drop p))) := by
  have HX := Lib.hid (show parseO f (xs.drop p) = ([], 0) by
    rw [List.drop_of_length_le (by rw [hb.len]; exact hp)]
    cases f <;> simp [parseO])
  clear hb
  go_enter Try.func67, Try.ntmps67
  go_wp2_with fail
  go_ret2
  exact GivesO.err 0 HX.out (Below.refl _ _)

set_option maxHeartbeats 800000 in
theorem rest_zero (f p : Nat) (hn : n ≤ 140737488355328) (hb : Bs w w.heap.size A n xs) (hp : p < n) (hz : xs.getD p 0 = 0) : Calls Try.prog 67 #[.slice A n c, .int .i64 p] w (GivesO w (parseO (f + 1) (xs.drop p))) := by
  have hne : xs.drop p ≠ [] := fun e => by have := congrArg List.length e; rw [List.length_drop, hb.len] at this; simp at this; omega
  have HX := Lib.hid (parseO_stop (f := f) hne (by rw [getD_drop]; exact hz))
  have hlen := hb.len
  obtain ⟨b, o, rfl, hbl, hcc⟩ := hb.mem (by omega)
  have c1 := hcc p hp
  rw [hz] at c1
  have HCC := Lib.hid hcc
  have hdp : decide (n ≤ p) = false := by simp; omega
  clear hb hne hz hcc
  go_enter Try.func67, Try.ntmps67
  go_wp2_with fail
  go_loopw [6] (fun i wr => ∃ m : Nat, p ≤ m ∧ m ≤ n ∧ i = .int .i64 m ∧ wr = w ∧ Hid (∀ k, p ≤ k → k < m → xs.getD k 0 = 0)) (fun i _ => n - (intOf i).toNat)
  case atStart => exact ⟨p, Nat.le_refl _, by omega, rfl, rfl, Lib.hid fun k h1 h2 => by omega⟩
  case round =>
    obtain ⟨m, hm1, hm2, rfl, rfl, HE⟩ := hrel
    by_cases hmn : m < n
    · have c2 := HCC.out m hmn
      by_cases hx : xs.getD m 0 = 0
      · have HE2 := Lib.hid (show ∀ k, p ≤ k → k < m + 1 → xs.getD k 0 = 0 from fun k h1 h2 => by
          rcases Nat.lt_or_ge k m with h3 | h3
          · exact HE.out k h1 h3
          · obtain rfl : k = m := by omega
            exact hx)
        rw [hx] at c2
        clear hx HE c1
        go_wp2_with fail
        exact ⟨⟨m + 1, by omega, by omega, rfl, trivial, HE2⟩, by simp [intOf]; omega⟩
      · have hx2 : (xs.getD m 0 != 0) = true := by simpa using hx
        have HZ := Lib.hid (zeros_drop_false (p := p) hm1 (by omega) hx)
        generalize xs.getD m 0 = x at *
        clear hx HE c1
        go_wp2_with fail
        go_ret2
        exact GivesO.err 5 (by rw [HX.out, HZ.out]; rfl) (Below.refl _ _)
    · obtain rfl : m = n := by omega
      have HZ := Lib.hid (zeros_drop_true (xs := xs) (p := p) (fun k h1 h2 => HE.out k h1 (by omega)))
      clear HE c1
      go_wp2_with fail
      go_ret2
      exact GivesO.err 0 (by rw [HX.out, HZ.out]; rfl) (Below.refl _ _)

/-- what takeO says of the bytes from a place on -/
theorem take_at (p : Nat) (hl : xs.length = n) (hp : p < n) : takeO (xs.drop p) =
    if xs.getD p 0 = 1 then ((1, []), 1, 0)
    else if p = n - 1 then (zeroB, 0, 3)
    else if xs.getD (p + 1) 0 < 2 then (zeroB, 0, 5)
    else if (n : Int) - p < xs.getD (p + 1) 0 then (zeroB, 0, 3)
    else if fitsO (xs.getD p 0) ((xs.getD (p + 1) 0).toNat - 2) = false then (zeroB, 0, 5)
    else ((xs.getD p 0, (xs.drop (p + 2)).take ((xs.getD (p + 1) 0).toNat - 2)), (xs.getD (p + 1) 0).toNat, 0) := by
  unfold takeO
  rw [getD_drop, getD_drop, List.length_drop, hl, List.drop_drop]
  by_cases h1 : xs.getD p 0 = 1
  · rw [if_pos h1, if_pos (by simpa using h1)]
  · rw [if_neg h1, if_neg (by simpa using h1)]
    by_cases h2 : p = n - 1
    · rw [if_pos h2, if_pos (by omega)]
    · rw [if_neg h2, if_neg (by omega)]
      by_cases h3 : xs.getD (p + 1) 0 < 2
      · rw [if_pos h3, if_pos h3]
      · rw [if_neg h3, if_neg h3]
        by_cases h4 : (n : Int) - p < xs.getD (p + 1) 0
        · rw [if_pos h4, if_pos (by omega)]
        · rw [if_neg h4, if_neg (by omega), Nat.add_zero]

set_option maxHeartbeats 1600000 in
theorem rest_err (f p : Nat) (hn : n ≤ 140737488355328) (hb : Bs w w.heap.size A n xs) (hp : p < n) (hz : xs.getD p 0 ≠ 0) (hk : xs.getD p 0 ≠ 1)
    (h : p = n - 1 ∨ xs.getD (p + 1) 0 < 2 ∨ (n : Int) - p < xs.getD (p + 1) 0) : Calls Try.prog 67 #[.slice A n c, .int .i64 p] w (GivesO w (parseO (f + 1) (xs.drop p))) := by
  have hne : xs.drop p ≠ [] := fun e => by have := congrArg List.length e; rw [List.length_drop, hb.len] at this; simp at this; omega
  have hX := parseO_next (f := f) hne (by rw [getD_drop]; exact hz)
  rw [take_at n xs p hb.len hp] at hX
  rw [if_neg hk] at hX
  obtain ⟨b, o, rfl, hbl, hcc⟩ := hb.mem (by omega)
  have hl := Low.alloc w (.cells #[.int .i64 (xs.getD p 0), .slice none 0 0] 85)
  have c1 := hcc p hp
  have hn1 := hb.nonneg p
  have hn2 := hb.nonneg (p + 1)
  have hzb : (xs.getD p 0 == 0) = false := by simpa using hz
  have hkb : (xs.getD p 0 != 1) = true := by simpa using hk
  have HB0 := Lib.hid hl
  by_cases h1 : p = n - 1
  · rw [if_pos h1] at hX
    have HX := Lib.hid hX
    have h1b : ((p : Int) == (n : Int) - 1) = true := by simp; omega
    clear hX h hcc hb hne hk hz hn2 h1
    generalize xs.getD p 0 = x0 at *
    go_enter Try.func67, Try.ntmps67
    go_wp2_with fail
    go_ret2
    exact GivesO.err 3 HX.out HB0.out
  · rw [if_neg h1] at hX
    have h1b : ((p : Int) == (n : Int) - 1) = false := by simp; omega
    have c2 : (w.alloc (.cells #[.int .i64 (xs.getD p 0), .slice none 0 0] 85)).cell? ⟨b, o + (p + 1), none⟩ = some (.int .u8 (xs.getD (p + 1) 0)) := (Below.cell hl (p := ⟨b, o + (p + 1), none⟩) hbl).trans (hcc (p + 1) (by omega))
    have hp1 : p + 1 < n := by omega
    by_cases h3 : xs.getD (p + 1) 0 < 2
    · rw [if_pos h3] at hX
      have HX := Lib.hid hX
      clear hX h hcc hb hne hk hz h1
      generalize xs.getD p 0 = x0 at *
      generalize xs.getD (p + 1) 0 = x1 at *
      go_enter Try.func67, Try.ntmps67
      go_wp2_with fail
      go_ret2
      exact GivesO.err 5 HX.out HB0.out
    · have h4 : (n : Int) - p < xs.getD (p + 1) 0 := by omega
      rw [if_neg h3, if_pos h4] at hX
      have HX := Lib.hid hX
      clear hX h hcc hb hne hk hz h1
      generalize xs.getD p 0 = x0 at *
      generalize xs.getD (p + 1) 0 = x1 at *
      go_enter Try.func67, Try.ntmps67
      go_wp2_with fail
      go_ret2
      exact GivesO.err 3 HX.out HB0.out
end
end Go.Proofs.Ytkbgfddicpnbmaa
