/- Stage 15: the program's own rounds over the four words in memory, a word taken, what comes of them, the words ahead of all bytes. No condition. -/
import Derived.Test.YtogmfhofdjiihaaKdC
import Derived.BigQuiet
set_option maxRecDepth 100000
namespace Go.Proofs.Ytogmfhofdjiihaa
open Go.RowKit
set_option linter.unusedVariables false

set_option maxHeartbeats 800000 in
theorem kround_any (g : Nat) (v : V4) (w : World) (hb : BlkW w g v) :
    Calls Try.prog 73 #[.pointer (some ⟨g, 0, none⟩)] w fun e w' => e = .returned (.tuple #[]) ∧ BlkW w' g (roundK v) ∧ Else_ g w w' := by
  have HK := Lib.hid (roundK_mixed v)
  generalize roundK v = vz at *
  go_enter Try.func73, Try.ntmps73
  go_wp2_with fail
  refine (mix_any g v 0 1 13 w (by simp [PairK]) (by simp [TurnsBy]) hb).mono ?_
  rintro e w1 ⟨rfl, hb1, he1⟩
  go_wp2_with fail
  refine (turn_any g _ 0 32 w1 (by omega) (by simp [TurnsBy]) hb1).mono ?_
  rintro e w2 ⟨rfl, hb2, he⟩
  replace he1 := he1.trans he
  clear hb1 he
  go_wp2_with fail
  refine (mix_any g _ 2 3 16 w2 (by simp [PairK]) (by simp [TurnsBy]) hb2).mono ?_
  rintro e w3 ⟨rfl, hb3, he⟩
  replace he1 := he1.trans he
  clear hb2 he
  go_wp2_with fail
  refine (mix_any g _ 0 3 21 w3 (by simp [PairK]) (by simp [TurnsBy]) hb3).mono ?_
  rintro e w4 ⟨rfl, hb4, he⟩
  replace he1 := he1.trans he
  clear hb3 he
  go_wp2_with fail
  refine (mix_any g _ 2 1 17 w4 (by simp [PairK]) (by simp [TurnsBy]) hb4).mono ?_
  rintro e w5 ⟨rfl, hb5, he⟩
  replace he1 := he1.trans he
  clear hb4 he
  go_wp2_with fail
  refine (turn_any g _ 2 32 w5 (by omega) (by simp [TurnsBy]) hb5).mono ?_
  rintro e w6 ⟨rfl, hb6, he⟩
  replace he1 := he1.trans he
  clear hb5 he
  go_wp2_with fail
  go_end0
  exact ⟨rfl, by rw [HK.out]; exact hb6, he1⟩

set_option maxHeartbeats 800000 in
theorem krounds_any (g : Nat) (v : V4) (n : Nat) (w : World) (hn : n < 1000) (hb : BlkW w g v) :
    Calls Try.prog 72 #[.pointer (some ⟨g, 0, none⟩), .int .i64 n] w fun e w' => e = .returned (.tuple #[]) ∧ BlkW w' g (roundsK n v) ∧ Else_ g w w' := by
  go_enter Try.func72, Try.ntmps72
  go_wp2_with fail
  go_loopw [5] (fun i wr => ∃ k : Nat, k ≤ n ∧ i = .int .i64 k ∧ Hid (BlkW wr g (roundsK k v)) ∧ Else_ g w wr) (fun i _ => n - (intOf i).toNat)
  case atStart => exact ⟨0, Nat.zero_le _, rfl, Lib.hid hb, Else_.refl _ _⟩
  case round =>
    obtain ⟨k, hk, rfl, HB, hE⟩ := hrel
    by_cases hlt : k < n
    · go_wp2_with fail
      refine (kround_any g _ wr HB.out).mono ?_
      rintro e w2 ⟨rfl, hb2, he⟩
      replace hE := hE.trans he
      have HB2 := Lib.hid hb2
      clear hb2 he HB
      go_wp2_with fail
      go_roundw
      case rel => exact ⟨k + 1, by omega, by go_num, HB2, hE⟩
      case measure => simp [intOf]; omega
    · obtain rfl : k = n := by omega
      go_wp2_with fail
      go_end0
      exact ⟨rfl, HB.out, hE⟩

set_option maxHeartbeats 800000 in
theorem ktake_any (g : Nat) (v : V4) (m : Int) (w : World) (hb : BlkW w g v) :
    Calls Try.prog 67 #[.pointer (some ⟨g, 0, none⟩), .int .u64 m] w fun e w' => e = .returned (.tuple #[]) ∧ BlkW w' g (takeK v m) ∧ Else_ g w w' := by
  have c0 := BlkW.cell (w := w.drew) hb 3 (by omega)
  have f0 := BlkV.frozen (w := w.drew) hb 3
  have HB := Lib.hid (BlkW.set_ (w := w.drew) hb 3 (by omega) (xorK (getK v 3) m))
  have HE := Lib.hid ((Else_.refl g w).drew.set_ 3 (.int .u64 (xorK (getK v 3) m)))
  have HK := Lib.hid (show takeK v m = setK (roundsK 2 (setK v 3 (xorK (getK v 3) m))) 0 (xorK (getK (roundsK 2 (setK v 3 (xorK (getK v 3) m))) 0) m) from rfl)
  generalize takeK v m = vz at *
  clear hb
  go_enter Try.func67, Try.ntmps67
  go_wp2_with fail
  go_still_tail 8, (by kernel_rfl)
  change wpList _ _ _ _ _ w.drew
  generalize w.drew = w2 at *
  go_wp2_with fail
  refine (krounds_any g _ 2 _ (by omega) HB.out).mono ?_
  rintro e w3 ⟨rfl, hb3, he3⟩
  have c1 := BlkW.cell (w := w3.drew) hb3 0 (by omega)
  have f1 := BlkV.frozen (w := w3.drew) hb3 0
  have HB2 := Lib.hid (BlkW.set_ (w := w3.drew) hb3 0 (by omega) (xorK (getK (roundsK 2 (setK v 3 (xorK (getK v 3) m))) 0) m))
  have HE2 := Lib.hid ((HE.out.trans he3).trans ((Else_.refl g w3).drew.set_ 0 (.int .u64 (xorK (getK (roundsK 2 (setK v 3 (xorK (getK v 3) m))) 0) m))))
  rw [← HK.out] at HB2
  clear HB HE hb3 he3 HK c0 f0
  generalize roundsK 2 (setK v 3 (xorK (getK v 3) m)) = u at *
  go_wp2_with fail
  go_still_tail 8, (by kernel_rfl)
  change wpList _ _ _ _ _ w3.drew
  generalize w3.drew = w4 at *
  go_wp2_with fail
  go_end0
  exact ⟨rfl, HB2.out, HE2.out⟩

set_option maxHeartbeats 800000 in
theorem khash_any (g : Nat) (v : V4) (w : World) (hb : BlkW w g v) :
    Calls Try.prog 69 #[.pointer (some ⟨g, 0, none⟩)] w fun e w' => e = .returned (.int .u64 (hashK v)) ∧ Else_ g w w' := by
  have c0 := BlkW.cell (w := w.drew) hb 2 (by omega)
  have f0 := BlkV.frozen (w := w.drew) hb 2
  have HB := Lib.hid (BlkW.set_ (w := w.drew) hb 2 (by omega) (xorK (getK v 2) 255))
  have HE := Lib.hid ((Else_.refl g w).drew.set_ 2 (.int .u64 (xorK (getK v 2) 255)))
  have HK := Lib.hid (show hashK v = xorK (xorK (xorK (getK (roundsK 4 (setK v 2 (xorK (getK v 2) 255))) 0) (getK (roundsK 4 (setK v 2 (xorK (getK v 2) 255))) 1)) (getK (roundsK 4 (setK v 2 (xorK (getK v 2) 255))) 2)) (getK (roundsK 4 (setK v 2 (xorK (getK v 2) 255))) 3) from rfl)
  generalize hashK v = vz at *
  clear hb
  go_enter Try.func69, Try.ntmps69
  go_wp2_with fail
  go_still_tail 7, (by kernel_rfl)
  change wpList _ _ _ _ _ w.drew
  generalize w.drew = w2 at *
  go_wp2_with fail
  refine (krounds_any g _ 4 _ (by omega) HB.out).mono ?_
  rintro e w3 ⟨rfl, hb3, he3⟩
  have HE2 := Lib.hid (HE.out.trans he3)
  have c1 := BlkW.cell hb3 0 (by omega)
  have c2 := BlkW.cell hb3 1 (by omega)
  have c3 := BlkW.cell hb3 2 (by omega)
  have c4 := BlkW.cell hb3 3 (by omega)
  clear HB HE hb3 he3 c0 f0
  generalize roundsK 4 (setK v 2 (xorK (getK v 2) 255)) = u at *
  go_wp2_with fail
  go_quiet (fail)
  go_wp2_with fail
  go_ret
  exact ⟨by rw [HK.out]; rfl, HE2.out.drewN _⟩
end Go.Proofs.Ytogmfhofdjiihaa
