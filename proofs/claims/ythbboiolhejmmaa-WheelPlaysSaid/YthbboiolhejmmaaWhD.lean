/- Stage 23: what the program's own wheel is to tell, as a structure over any memory of its own; what the laws ask of every program; the invariant of WheelPlays. No condition. -/
import Derived.Test.YthbboiolhejmmaaWhC
import Derived.Test.YthbboiolhejmmaaNoOb
import Derived.Test.YthbboiolhejmmaaRin
set_option maxRecDepth 100000
namespace Go.Proofs.Ythbboiolhejmmaa
open Go.RowKit
set_option linter.unusedVariables false

def mayW (id : Int) : Bool := decide (0 ≤ id) && decide (id < 256)
def toW (l : List (Int × Int)) (now id at_ : Int) : List (Int × Int) := if mayW id = true then setW l now id at_ else l
/-- a wheel of the program: R says that it stands at p, keeps its memory in F, at which tick it is, and its timers -/
structure WhObj where
  R : World → Value → (Nat → Prop) → Int → List (Int × Int) → Prop
  under : ∀ {w p F now l}, R w p F now l → Under F w
  keep : ∀ {w w' p F now l}, R w p F now l → w.heap.size ≤ w'.heap.size → (∀ k, F k → w'.heap[k]? = w.heap[k]?) → R w' p F now l
  right : ∀ {w p F now l}, R w p F now l → 0 ≤ now ∧ RightW now l
  new : ∀ (w : World), Calls Try.prog 6 #[] w fun e w' => ∃ g F, e = .returned (.pointer (some ⟨g, 0, none⟩)) ∧ R w' (.pointer (some ⟨g, 0, none⟩)) F 0 [] ∧ (∀ k, F k → w.heap.size ≤ k) ∧ Low w w'
  set : ∀ {w p F now l} (id at_ : Int), R w p F now l → now ≤ 1000 → i64ok id → i64ok at_ → Calls Try.prog 8 #[p, .int .i64 id, .int .i64 at_] w fun e w' => e = .returned (.bool (mayW id)) ∧ ∃ F', R w' p F' now (toW l now id at_) ∧ Grow F F' w ∧ Out F w w'
  unset : ∀ {w p F now l} (id : Int), R w p F now l → i64ok id → Calls Try.prog 10 #[p, .int .i64 id] w fun e w' => e = .returned (.bool (hasS l id)) ∧ ∃ F', R w' p F' now (outS l id) ∧ Grow F F' w ∧ Out F w w'
  when : ∀ {w p F now l} (id : Int), R w p F now l → i64ok id → Calls Try.prog 7 #[p, .int .i64 id] w fun e w' => ∃ x : Int, e = .returned (.tuple #[.int .i64 x, .bool (hasS l id)]) ∧ (hasS l id = true → (id, x) ∈ l) ∧ (hasS l id = false → x = 0) ∧ Low w w'
  advance : ∀ {w p F now l}, R w p F now l → now ≤ 1000 → Calls Try.prog 14 #[p] w fun e w' => ∃ A c, e = .returned (.slice A (dueW l (now + 1)).length c) ∧ Ns w' w'.heap.size A (dueW l (now + 1)).length (dueW l (now + 1)) ∧
    ∃ F', R w' p F' (now + 1) (restW l (now + 1)) ∧ Grow F F' w ∧ Out F w w'
  now_ : ∀ {w p F now l}, R w p F now l → Calls Try.prog 15 #[p] w fun e w' => e = .returned (.int .i64 now) ∧ Low w w'
  len : ∀ {w p F now l}, R w p F now l → Calls Try.prog 16 #[p] w fun e w' => e = .returned (.int .i64 (l.length : Nat)) ∧ Low w w'
theorem WhObj.low (O : WhObj) {w w' : World} {p : Value} {F : Nat → Prop} {now : Int} {l : List (Int × Int)} (h : O.R w p F now l) (hl : Low w w') : O.R w' p F now l := O.keep h hl.size fun k hk => hl.block k (O.under h k hk)
theorem toW_right {l : List (Int × Int)} {now id at_ : Int} (h : RightW now l) (hn : now ≤ 1000) (ha : at_ ≤ 9223372036854775807) : RightW now (toW l now id at_) := by
  unfold toW
  split
  · rename_i h2
    unfold mayW at h2
    simp at h2
    exact h.set h2.1 h2.2 (by omega) ha
  · exact h

theorem lives23_m : mayW 3 = true ∧ mayW 1 = true ∧ mayW 256 = false := by decide +kernel
theorem lives23_l : toW (toW [] 0 3 2) 0 1 2 = [(3, 2), (1, 2)] := by decide +kernel
theorem lives23_d1 : dueW [(3, 2), (1, 2)] (0 + 1) = [] := by decide +kernel
theorem lives23_r1 : restW [(3, 2), (1, 2)] (0 + 1) = [(3, 2), (1, 2)] := by decide +kernel
theorem lives23_d2 : dueW [(3, 2), (1, 2)] (0 + 1 + 1) = [1, 3] := by decide +kernel
theorem lives23_r2 : restW [(3, 2), (1, 2)] (0 + 1 + 1) = [] := by decide +kernel
theorem all13 : AllI [1, 3] := .cons (by omega) (by omega) (.cons (by omega) (by omega) .nil)
theorem ns_freshW (w : World) (t : TypeId) (xs : List Int) (h : AllI xs) : Ns (w.alloc (.cells (cellsN xs).toArray t)) (w.alloc (.cells (cellsN xs).toArray t)).heap.size (some ⟨w.heap.size, 0, none⟩) xs.length xs := by
  have h1 := BlkN.new w t xs
  exact h1.bs h h1.lt rfl
set_option maxHeartbeats 3200000 in
set_option maxRecDepth 100000 in
theorem whlives_any (O : WhObj) (w : World) : Calls Try.prog 17 #[] w fun e w' => e = .returned (.bool true) ∧ Low w w' := by
  have HM := Lib.hid lives23_m
  have HLL := Lib.hid lives23_l
  go_enter Try.func17, Try.ntmps17
  go_wp2_with fail
  refine (O.new w).mono ?_
  rintro e w1 ⟨g, F0, rfl, hR, hF, hl⟩
  have HR := Lib.hid hR
  have HF := Lib.hid hF
  have HL := Lib.hid (show Below w.heap.size w w1 from hl)
  clear hR hF hl
  go_wp2_with fail
  have hz1 := HL.out.size
  refine (O.set 3 2 HR.out (by omega) (by unfold i64ok; omega) (by unfold i64ok; omega)).mono ?_
  rintro e w2 ⟨rfl, F1, hR, hG, hO⟩
  have HF1 := Lib.hid (hG.from_ HF.out hz1)
  have HL1 := Lib.hid (HL.out.trans (hO.below HF.out hz1))
  have HR1 := Lib.hid hR
  clear hR hG hO HR HF HL hz1
  go_wp2_with fail
  have hz1 := HL1.out.size
  refine (O.set 1 2 HR1.out (by omega) (by unfold i64ok; omega) (by unfold i64ok; omega)).mono ?_
  rintro e w3 ⟨rfl, F2, hR, hG, hO⟩
  rw [HLL.out] at hR
  have HF2 := Lib.hid (hG.from_ HF1.out hz1)
  have HL2 := Lib.hid (HL1.out.trans (hO.below HF1.out hz1))
  have HR2 := Lib.hid hR
  clear hR hG hO HR1 HF1 HL1 hz1
  go_wp2_with fail
  have hz1 := HL2.out.size
  refine (O.advance HR2.out (by omega)).mono ?_
  rintro e w4 ⟨Aa, ca, rfl, _, F3, hR, hG, hO⟩
  rw [lives23_r1] at hR
  rw [lives23_d1]
  have HF3 := Lib.hid (hG.from_ HF2.out hz1)
  have HL3 := Lib.hid (HL2.out.trans (hO.below HF2.out hz1))
  have HR3 := Lib.hid hR
  clear hR hG hO HR2 HF2 HL2 hz1
  go_wp2_with fail
  have hz1 := HL3.out.size
  refine (O.advance HR3.out (by omega)).mono ?_
  rintro e w5 ⟨Ab, cb, rfl, hnb, F4, hR, hG, hO⟩
  rw [lives23_r2] at hR
  rw [lives23_d2] at hnb ⊢
  have HF4 := Lib.hid (hG.from_ HF3.out hz1)
  have HL4 := Lib.hid (HL3.out.trans (hO.below HF3.out hz1))
  have HR4 := Lib.hid hR
  have hlA := Low.alloc w5 (.cells (cellsN [1, 3]).toArray 3)
  have HN1 := Lib.hid (hnb.below' hlA hlA.size)
  have HN2 := Lib.hid (ns_freshW w5 3 [1, 3] all13)
  have HR5 := Lib.hid (O.low HR4.out hlA)
  have HL5 := Lib.hid (HL4.out.trans (hlA.mono HL4.out.size))
  clear hR hG hO HR3 HF3 HL3 hz1 hnb HR4 HL4 hlA
  go_wp2_with fail
  change Calls _ _ _ (w5.alloc (.cells (cellsN [1, 3]).toArray 3)) _
  generalize w5.alloc (.cells (cellsN [1, 3]).toArray 3) = w6 at *
  refine (rints_any Ab _ 2 cb 2 2 [1, 3] [1, 3] w6 (by omega) HN1.out HN2.out).mono ?_
  rintro e w7 ⟨rfl, hl⟩
  rw [show decide (([1, 3] : List Int) = [1, 3]) = true by decide]
  have HR6 := Lib.hid (O.low HR5.out hl)
  have HL6 := Lib.hid (HL5.out.trans (hl.mono HL5.out.size))
  clear hl HR5 HL5 HN1 HN2
  go_wp2_with fail
  refine (O.now_ HR6.out).mono ?_
  rintro e w8 ⟨rfl, hl⟩
  have HR7 := Lib.hid (O.low HR6.out hl)
  have HL7 := Lib.hid (HL6.out.trans (hl.mono HL6.out.size))
  clear hl HR6 HL6
  go_wp2_with fail
  refine (O.len HR7.out).mono ?_
  rintro e w9 ⟨rfl, hl⟩
  have HR8 := Lib.hid (O.low HR7.out hl)
  have HL8 := Lib.hid (HL7.out.trans (hl.mono HL7.out.size))
  clear hl HR7 HL7
  go_wp2_with fail
  have hz1 := HL8.out.size
  refine (O.set 256 3 HR8.out (by omega) (by unfold i64ok; omega) (by unfold i64ok; omega)).mono ?_
  rintro e w10 ⟨rfl, F9, hR, hG, hO⟩
  rw [HM.out.2.2]
  have HL9 := Lib.hid (HL8.out.trans (hO.below HF4.out hz1))
  clear hR hG hO HR8 HL8 HF4 hz1
  go_wp2_with fail
  go_ret
  exact ⟨rfl, HL9.out⟩
end Go.Proofs.Ythbboiolhejmmaa
