/- Stage 22: what the program's own list is to tell, as a structure over any memory of its own; what the laws ask of every program; the invariant of RecentPlays. No condition. -/
import Derived.Test.YtpphkmedlpdccaaRcB
import Derived.Test.YtpphkmedlpdccaaSlB
import Derived.Test.YtpphkmedlpdccaaNoOb
import Derived.Test.YtpphkmedlpdccaaRin
set_option maxRecDepth 100000
namespace Go.Proofs.Ytpphkmedlpdccaa
open Go.RowKit
set_option linter.unusedVariables false

def mayR (n : Nat) (x : Int) : Bool := decide (0 ≤ x) && decide (x < n)
def toR (n : Nat) (l : List Int) (x : Int) : List Int := if mayR n x = true then touchR l x else l
theorem toR_right {n : Nat} {l : List Int} (h : RightR n l) (x : Int) : RightR n (toR n l x) := by
  unfold toR
  split
  · rename_i h2
    unfold mayR at h2
    simp at h2
    exact h.touch h2.1 h2.2
  · exact h
/-- a list of the program: R says that it stands at p, keeps its memory in F, is of numbers below n, and which there are -/
structure RcObj where
  R : World → Value → (Nat → Prop) → Nat → List Int → Prop
  under : ∀ {w p F n l}, R w p F n l → Under F w
  keep : ∀ {w w' p F n l}, R w p F n l → w.heap.size ≤ w'.heap.size → (∀ k, F k → w'.heap[k]? = w.heap[k]?) → R w' p F n l
  right : ∀ {w p F n l}, R w p F n l → (1 ≤ n ∧ n ≤ 256) ∧ RightR n l
  new : ∀ (n : Nat) (w : World), 1 ≤ n → n ≤ 256 → Calls Try.prog 5 #[.int .i64 n] w fun e w' => ∃ g F, e = .returned (.pointer (some ⟨g, 0, none⟩)) ∧ R w' (.pointer (some ⟨g, 0, none⟩)) F n [] ∧ (∀ k, F k → w.heap.size ≤ k) ∧ Low w w'
  newNot : ∀ (n : Int) (w : World), i64ok n → ¬ (1 ≤ n ∧ n ≤ 256) → Calls Try.prog 5 #[.int .i64 n] w fun e w' => e = .returned (.pointer none) ∧ Low w w'
  touch : ∀ {w p F n l} (x : Int), R w p F n l → i64ok x → Calls Try.prog 7 #[p, .int .i64 x] w fun e w' => e = .returned (.bool (mayR n x)) ∧ ∃ F', R w' p F' n (toR n l x) ∧ Grow F F' w ∧ Out F w w'
  drop : ∀ {w p F n l} (x : Int), R w p F n l → i64ok x → Calls Try.prog 9 #[p, .int .i64 x] w fun e w' => e = .returned (.bool (l.contains x)) ∧ ∃ F', R w' p F' n (dropR l x) ∧ Grow F F' w ∧ Out F w w'
  has : ∀ {w p F n l} (x : Int), R w p F n l → i64ok x → Calls Try.prog 15 #[p, .int .i64 x] w fun e w' => e = .returned (.bool (l.contains x)) ∧ Low w w'
  oldest : ∀ {w p F n l}, R w p F n l → Calls Try.prog 11 #[p] w fun e w' => e = .returned (.tuple #[.int .i64 (l.getD (l.length - 1) 0), .bool (decide (0 < l.length))]) ∧ Low w w'
  len : ∀ {w p F n l}, R w p F n l → Calls Try.prog 14 #[p] w fun e w' => e = .returned (.int .i64 (l.length : Nat)) ∧ Low w w'
  all : ∀ {w p F n l}, R w p F n l → Calls Try.prog 13 #[p] w fun e w' => ∃ A c, e = .returned (.slice A l.length c) ∧ Ns w' w'.heap.size A l.length l ∧ Low w w'
theorem RcObj.low (O : RcObj) {w w' : World} {p : Value} {F : Nat → Prop} {n : Nat} {l : List Int} (h : O.R w p F n l) (hl : Low w w') : O.R w' p F n l := O.keep h hl.size fun k hk => hl.block k (O.under h k hk)

theorem lives22_m : mayR 3 1 = true ∧ mayR 3 2 = true ∧ mayR 3 3 = false := by decide +kernel
theorem lives22_l : toR 3 (toR 3 (toR 3 [] 1) 2) 1 = [1, 2] := by decide +kernel
set_option maxHeartbeats 3200000 in
set_option maxRecDepth 100000 in
theorem rclives_any (O : RcObj) (w : World) : Calls Try.prog 6 #[] w fun e w' => e = .returned (.bool true) ∧ Low w w' := by
  have HN0 := Lib.hid (fun u => O.newNot 0 u (by unfold i64ok; omega) (by omega))
  obtain ⟨m1, m2, m3⟩ := lives22_m
  have HM1 := Lib.hid m1
  have HM2 := Lib.hid m2
  have HM3 := Lib.hid m3
  have HLL := Lib.hid lives22_l
  clear m1 m2 m3
  go_enter Try.func6, Try.ntmps6
  go_wp2_with fail
  refine (O.new 3 w (by omega) (by omega)).mono ?_
  rintro e w1 ⟨g, F0, rfl, hR, hF, hl⟩
  have HR := Lib.hid hR
  have HF := Lib.hid hF
  have HL := Lib.hid (show Below w.heap.size w w1 from hl)
  clear hR hF hl
  go_wp2_with fail
  have hz1 := HL.out.size
  refine (O.touch 1 HR.out (by unfold i64ok; omega)).mono ?_
  rintro e w2 ⟨rfl, F1, hR, hG, hO⟩
  have HF1 := Lib.hid (hG.from_ HF.out hz1)
  have HL1 := Lib.hid (HL.out.trans (hO.below HF.out hz1))
  have HR1 := Lib.hid hR
  clear hR hG hO HR HF HL hz1
  go_wp2_with fail
  have hz1 := HL1.out.size
  refine (O.touch 2 HR1.out (by unfold i64ok; omega)).mono ?_
  rintro e w3 ⟨rfl, F2, hR, hG, hO⟩
  have HF2 := Lib.hid (hG.from_ HF1.out hz1)
  have HL2 := Lib.hid (HL1.out.trans (hO.below HF1.out hz1))
  have HR2 := Lib.hid hR
  clear hR hG hO HR1 HF1 HL1 hz1
  go_wp2_with fail
  have hz1 := HL2.out.size
  refine (O.touch 1 HR2.out (by unfold i64ok; omega)).mono ?_
  rintro e w4 ⟨rfl, F3, hR, hG, hO⟩
  rw [HLL.out] at hR
  have HF3 := Lib.hid (hG.from_ HF2.out hz1)
  have HL3 := Lib.hid (HL2.out.trans (hO.below HF2.out hz1))
  have HR3 := Lib.hid hR
  clear hR hG hO HR2 HF2 HL2 hz1
  go_wp2_with fail
  refine (O.oldest HR3.out).mono ?_
  rintro e w5 ⟨rfl, hl⟩
  have HR4 := Lib.hid (O.low HR3.out hl)
  have HL4 := Lib.hid (HL3.out.trans (hl.mono HL3.out.size))
  clear hl HR3 HL3
  go_wp2_with fail
  refine (O.len HR4.out).mono ?_
  rintro e w6 ⟨rfl, hl⟩
  have HR5 := Lib.hid (O.low HR4.out hl)
  have HL5 := Lib.hid (HL4.out.trans (hl.mono HL4.out.size))
  clear hl HR4 HL4
  go_wp2_with fail
  have hz1 := HL5.out.size
  refine (O.touch 3 HR5.out (by unfold i64ok; omega)).mono ?_
  rintro e w7 ⟨rfl, F6, hR, hG, hO⟩
  rw [HM3.out]
  have HL6 := Lib.hid (HL5.out.trans (hO.below HF3.out hz1))
  clear hR hG hO HR5 HF3 HL5 hz1
  go_wp2_with fail
  refine (HN0.out w7).mono ?_
  rintro e w8 ⟨rfl, hl⟩
  have HL7 := Lib.hid (HL6.out.trans (hl.mono HL6.out.size))
  clear hl HL6
  go_wp2_with fail
  go_ret
  exact ⟨rfl, HL7.out⟩

/-- the program's list holds s, the document's list l lies outside of it -/
def RcInv (O : RcObj) (base : Nat) (w : World) (p : Value) (n : Nat) (A : Option Addr) (c : Nat) (l s : List Int) : Prop :=
  ∃ F, O.R w p F n s ∧ (∀ k, F k → base ≤ k) ∧ l.length ≤ c ∧ Ns w w.heap.size A l.length l ∧ offA F A l.length
section
variable {O : RcObj} {base : Nat} {w w' : World} {p : Value} {n : Nat} {A : Option Addr} {c : Nat} {l s : List Int}
theorem RcInv.low (h : RcInv O base w p n A c l s) (hl : Low w w') : RcInv O base w' p n A c l s := by
  obtain ⟨F, h1, h2, h3, h4, h5⟩ := h
  exact ⟨F, O.low h1 hl, h2, h3, h4.below' hl hl.size, h5⟩
theorem RcInv.lies (h : RcInv O base w p n A c l s) : Ns w w.heap.size A l.length l ∧ l.length ≤ c := by
  obtain ⟨F, h1, h2, h3, h4, h5⟩ := h
  exact ⟨h4, h3⟩
theorem RcInv.right (h : RcInv O base w p n A c l s) : RightR n s ∧ s.length ≤ 256 := by
  obtain ⟨F, h1, h2, h3, h4, h5⟩ := h
  have h6 := O.right h1
  exact ⟨h6.2, Nat.le_trans h6.2.len h6.1.2⟩
theorem RcInv.touch {x : Int} (h : RcInv O base w p n A c l l) (hb : base ≤ w.heap.size) (hx : i64ok x) :
    Calls Try.prog 7 #[p, .int .i64 x] w fun e w' => e = .returned (.bool (mayR n x)) ∧ RcInv O base w' p n A c l (toR n l x) ∧ Below base w w' := by
  obtain ⟨F, h1, h2, h3, h4, h5⟩ := h
  refine (O.touch x h1 hx).mono ?_
  rintro e w' ⟨rfl, F', hR, hG, hO⟩
  exact ⟨rfl, ⟨F', hR, hG.from_ h2 hb, h3, h4.out h5 hO, h5.grow hG h4⟩, hO.below h2 hb⟩
theorem RcInv.drop {x : Int} (h : RcInv O base w p n A c l l) (hb : base ≤ w.heap.size) (hx : i64ok x) :
    Calls Try.prog 9 #[p, .int .i64 x] w fun e w' => e = .returned (.bool (l.contains x)) ∧ RcInv O base w' p n A c l (dropR l x) ∧ Below base w w' := by
  obtain ⟨F, h1, h2, h3, h4, h5⟩ := h
  refine (O.drop x h1 hx).mono ?_
  rintro e w' ⟨rfl, F', hR, hG, hO⟩
  exact ⟨rfl, ⟨F', hR, hG.from_ h2 hb, h3, h4.out h5 hO, h5.grow hG h4⟩, hO.below h2 hb⟩
theorem RcInv.has {x : Int} (h : RcInv O base w p n A c l s) (hx : i64ok x) : Calls Try.prog 15 #[p, .int .i64 x] w fun e w' => e = .returned (.bool (s.contains x)) ∧ Low w w' := by
  obtain ⟨F, h1, h2, h3, h4, h5⟩ := h
  exact O.has x h1 hx
theorem RcInv.oldest (h : RcInv O base w p n A c l s) : Calls Try.prog 11 #[p] w fun e w' => e = .returned (.tuple #[.int .i64 (s.getD (s.length - 1) 0), .bool (decide (0 < s.length))]) ∧ Low w w' := by
  obtain ⟨F, h1, h2, h3, h4, h5⟩ := h
  exact O.oldest h1
theorem RcInv.len (h : RcInv O base w p n A c l s) : Calls Try.prog 14 #[p] w fun e w' => e = .returned (.int .i64 (s.length : Nat)) ∧ Low w w' := by
  obtain ⟨F, h1, h2, h3, h4, h5⟩ := h
  exact O.len h1
theorem RcInv.all (h : RcInv O base w p n A c l s) : Calls Try.prog 13 #[p] w fun e w' => ∃ A c, e = .returned (.slice A s.length c) ∧ Ns w' w'.heap.size A s.length s ∧ Low w w' := by
  obtain ⟨F, h1, h2, h3, h4, h5⟩ := h
  exact O.all h1
theorem RcInv.take {A' : Option Addr} {c' : Nat} (h : RcInv O base w p n A c l s) (hc : s.length ≤ c') (ho : OwnN 3 w' w.heap.size A' s.length c' s) (hl : Low w w') : RcInv O base w' p n A' c' s s := by
  obtain ⟨F, h1, h2, h3, h4, h5⟩ := h
  exact ⟨F, O.low h1 hl, h2, hc, Ns.of_own (Nat.le_refl _) ho.2 ho.1, offA.fresh (fun k hk => O.under h1 k hk) ho.fromI⟩
end
end Go.Proofs.Ytpphkmedlpdccaa
