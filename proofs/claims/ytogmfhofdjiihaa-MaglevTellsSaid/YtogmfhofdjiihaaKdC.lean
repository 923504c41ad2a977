/- Stage 15: the four words in memory turned, mixed, brought through rounds, with a word taken, and what comes of them. No condition. -/
import Derived.Test.YtogmfhofdjiihaaKdB
set_option maxRecDepth 100000
namespace Go.Proofs.Ytogmfhofdjiihaa
open Go.RowKit
set_option linter.unusedVariables false

set_option maxHeartbeats 800000 in
theorem turn_any (g : Nat) (v : V4) (i s : Nat) (w : World) (hi : i < 4) (hs : TurnsBy s) (hb : BlkW w g v) :
    Calls Try.prog 75 #[.pointer (some ⟨g, 0, none⟩), .int .i64 i, .int .i64 s] w fun e w' => e = .returned (.tuple #[]) ∧ BlkW w' g (setK v i (rotK (getK v i) s)) ∧ Else_ g w w' := by
  have hc : i = 0 ∨ i = 1 ∨ i = 2 ∨ i = 3 := by omega
  have c0 := hb.cell i hi
  have f0 := BlkV.frozen hb i
  have HB := Lib.hid (BlkW.set_ (w := w.drew) hb i hi (rotK (getK v i) s))
  have HE := Lib.hid ((Else_.refl g w).drew.set_ i (.int .u64 (rotK (getK v i) s)))
  clear hb hi
  rcases hc with rfl | rfl | rfl | rfl
  all_goals
    go_enter Try.func75, Try.ntmps75
    go_wp2_with fail
    go_still_tail 11, (by kernel_rfl)
    still_call (rotl_any _ s _ hs)
    repeat still_step
    refine wpStill_nil ?_
    change wpList _ _ _ _ _ w.drew
    replace c0 := (show w.drew.cell? _ = _ from c0)
    replace f0 := (show w.drew.frozen? _ = _ from f0)
    generalize w.drew = w2 at *
    go_wp2_with fail
    go_end0
    exact ⟨rfl, HB.out, HE.out⟩

/-- a word grows by another one, which then is rotated and xor the first -/
def mixK (v : V4) (i j s : Nat) : V4 :=
  let v1 := setK v i (addK (getK v i) (getK v j))
  let v2 := setK v1 j (rotK (getK v1 j) s)
  setK v2 j (xorK (getK v2 j) (getK v2 i))
theorem roundK_mixed (v : V4) : roundK v = (let u1 := mixK v 0 1 13; let u2 := setK u1 0 (rotK (getK u1 0) 32); let u3 := mixK u2 2 3 16; let u4 := mixK u3 0 3 21; let u5 := mixK u4 2 1 17; setK u5 2 (rotK (getK u5 2) 32)) := rfl
def PairK (i j : Nat) : Prop := (i = 0 ∧ j = 1) ∨ (i = 2 ∧ j = 3) ∨ (i = 0 ∧ j = 3) ∨ (i = 2 ∧ j = 1)

set_option maxHeartbeats 1600000 in
theorem mix_any (g : Nat) (v : V4) (i j s : Nat) (w : World) (hp : PairK i j) (hs : TurnsBy s) (hb : BlkW w g v) :
    Calls Try.prog 74 #[.pointer (some ⟨g, 0, none⟩), .int .i64 i, .int .i64 j, .int .i64 s] w fun e w' => e = .returned (.tuple #[]) ∧ BlkW w' g (mixK v i j s) ∧ Else_ g w w' := by
  have hij : i < 4 ∧ j < 4 := by
    rcases hp with ⟨rfl, rfl⟩ | ⟨rfl, rfl⟩ | ⟨rfl, rfl⟩ | ⟨rfl, rfl⟩ <;> exact ⟨by omega, by omega⟩
  have c0 := hb.cell i hij.1
  have c1 := hb.cell j hij.2
  have f0 := BlkV.frozen hb i
  have HB := Lib.hid (BlkW.set_ (w := w.drew) hb i hij.1 (addK (getK v i) (getK v j)))
  have HE := Lib.hid ((Else_.refl g w).drew.set_ i (.int .u64 (addK (getK v i) (getK v j))))
  have HT := fun (v1 : V4) (w1 : World) => turn_any g v1 j s w1 hij.2 hs
  have HC := fun (v1 : V4) (w1 : World) (h : BlkW w1 g v1) => Lib.hid (And.intro (BlkW.cell (w := w1.drew) h i hij.1) (And.intro (BlkW.cell (w := w1.drew) h j hij.2) (And.intro (BlkV.frozen (w := w1.drew) h j) (And.intro (BlkW.set_ (w := w1.drew) h j hij.2 (xorK (getK v1 j) (getK v1 i))) ((Else_.refl g w1).drew.set_ j (.int .u64 (xorK (getK v1 j) (getK v1 i))))))))
  have HK := Lib.hid (show mixK v i j s = setK (setK (setK v i (addK (getK v i) (getK v j))) j (rotK (getK (setK v i (addK (getK v i) (getK v j))) j) s)) j (xorK (getK (setK (setK v i (addK (getK v i) (getK v j))) j (rotK (getK (setK v i (addK (getK v i) (getK v j))) j) s)) j) (getK (setK (setK v i (addK (getK v i) (getK v j))) j (rotK (getK (setK v i (addK (getK v i) (getK v j))) j) s)) i)) from rfl)
  generalize mixK v i j s = vz at *
  clear hb hij
  rcases hp with ⟨rfl, rfl⟩ | ⟨rfl, rfl⟩ | ⟨rfl, rfl⟩ | ⟨rfl, rfl⟩
  all_goals
    go_enter Try.func74, Try.ntmps74
    go_wp2_with fail
    go_still_tail 13, (by kernel_rfl)
    change wpList _ _ _ _ _ w.drew
    replace c0 := (show w.drew.cell? _ = _ from c0)
    replace c1 := (show w.drew.cell? _ = _ from c1)
    replace f0 := (show w.drew.frozen? _ = _ from f0)
    generalize w.drew = w2 at *
    go_wp2_with fail
    refine (HT _ _ HB.out).mono ?_
    rintro e w3 ⟨rfl, hb3, he3⟩
    obtain ⟨c2, c3, f2, h3, h4⟩ := (HC _ _ hb3).out
    have HE2 := Lib.hid ((HE.out.trans he3).trans h4)
    have HB2 := Lib.hid h3
    rw [← HK.out] at HB2
    clear HB HE hb3 he3 h3 h4 c0 c1 f0 HC HT HK
    go_wp2_with fail
    go_still_tail 13, (by kernel_rfl)
    change wpList _ _ _ _ _ w3.drew
    generalize w3.drew = w4 at *
    go_wp2_with fail
    go_end0
    exact ⟨rfl, HB2.out, HE2.out⟩
end Go.Proofs.Ytogmfhofdjiihaa
