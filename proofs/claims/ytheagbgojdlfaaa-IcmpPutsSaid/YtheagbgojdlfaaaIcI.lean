/- What the laws' own small test of messages answers: true. And what was put is parsed as what it was. No condition. -/
import Derived.Test.YtheagbgojdlfaaaIcC
import Derived.Test.YtheagbgojdlfaaaIcE
import Derived.Test.YtheagbgojdlfaaaIcF
import Derived.Test.YtheagbgojdlfaaaIcH
namespace Go.Proofs.Ytheagbgojdlfaaa
open Go.RowKit
set_option linter.unusedVariables false

theorem Mg.of_v {m : Mg} {kd cd wd : Int} {bs : List Int} (h : m.v = ⟨kd, cd, wd, bs⟩) : m.kd = kd ∧ m.cd = cd ∧ m.wd = wd ∧ m.bs = bs := by
  unfold Mg.v at h
  simpa using h
theorem exM_len : (putM zero16 zero16 ⟨129, 0, 5, []⟩).length = 8 := by
  unfold putM
  rw [if_pos (by decide)]
  simp [flatM, four]

set_option maxRecDepth 100000 in
set_option maxHeartbeats 1600000 in
theorem iclives_any (w : World) : Calls Try.prog 7 #[] w fun e w' => e = .returned (.bool true) ∧ Below w.heap.size w w' := by
  go_enter Try.func7, Try.ntmps7
  go_wp2_with fail
  refine (icreply_any ⟨128, 0, 5, none, 0, 0, []⟩ w ⟨by simp [i64ok], by simp [i64ok], by simp, by simp, Bs.nil _ _ _⟩).mono ?_
  rintro e w1 ⟨m, rfl, hv, hok, hL, -⟩
  rw [show replyM (Mg.v ⟨128, 0, 5, none, 0, 0, []⟩) = ⟨129, 0, 5, []⟩ by unfold replyM; rw [if_pos (by decide)]; rfl] at hv
  rw [show replyB (Mg.v ⟨128, 0, 5, none, 0, 0, []⟩) = true by decide]
  obtain ⟨v0, v1, v2, v3⟩ := Mg.of_v hv
  obtain ⟨kd, cd, wd, bA, bm, bc, bs⟩ := m
  dsimp only at v0 v1 v2 v3
  subst v0 v1 v2 v3
  have hbm := hok.bs.len
  dsimp only at hbm
  subst hbm
  have HOK := Lib.hid hok
  clear hok hv
  unfold msgV
  go_wp2_with ((with_reducible refine wpList_alloc_msg rfl rfl ?_); intro w2 HZ hl2 hz2; refine Hid.out ?_)
  refine Lib.hid ?_
  replace HZ := Lib.hid HZ
  go_wp2_with ((refine wpList_store_msg rfl (.tmp 1) (.tmp 8) rfl w1.heap.size rfl ⟨129, 0, 5, bA, 0, bc, []⟩ rfl zeroM HZ.out ?_); intro w3 HG hb3 ho3 hz3; refine Hid.out ?_)
  refine Lib.hid ?_
  replace HG := Lib.hid HG
  have hlx : Below w1.heap.size w1 w3 := Below.trans hl2 hb3
  replace HOK := Lib.hid (HOK.out.below' hlx (by omega : w1.heap.size ≤ w3.heap.size))
  replace hL : Low w w3 := Below.trans hL (hlx.mono hL.size)
  clear HZ hl2 hb3 ho3 hz2 hz3 hlx
  go_wp2_with fail
  refine (icabout_any none 0 0 [] w3 (by omega) (by omega) (by omega) (Bs.nil _ _ _) 9 0 0 (by simp [i64ok]) (by simp [i64ok]) (by simp)).mono ?_
  rintro e w4 ⟨m4, rfl, -, -, hB4, -⟩
  rw [show aboutB 9 0 [] = false by unfold aboutB; rw [decide_eq_false (by omega)]; rfl]
  replace HG := Lib.hid (HG.out.below hB4 HG.out.lt)
  replace HOK := Lib.hid (HOK.out.low hB4)
  replace hL := Low.trans hL hB4
  clear hB4
  unfold msgV
  go_wp2_with ((with_reducible refine wpList_alloc_msg rfl rfl ?_); intro w5 HZ hl5 hz5; refine Hid.out ?_)
  refine Lib.hid ?_
  replace HZ := Lib.hid HZ
  have hlt4 := HG.out.lt
  replace HG := Lib.hid (HG.out.below hl5 HG.out.lt)
  go_wp2_with ((refine wpList_store_msg rfl (.tmp 3) (.tmp 12) rfl w4.heap.size rfl m4 rfl zeroM HZ.out ?_); intro w6 HG6 hb6 ho6 hz6; refine Hid.out ?_)
  refine Lib.hid ?_
  have hlx : Below w4.heap.size w4 w6 := Below.trans hl5 hb6
  replace HG := Lib.hid (HG.out.below hb6 hlt4)
  replace HOK := Lib.hid (HOK.out.below' hlx (by omega : w4.heap.size ≤ w6.heap.size))
  replace hL : Low w w6 := Below.trans hL (hlx.mono hL.size)
  clear HZ hl5 hb6 ho6 hz5 hz6 hlx HG6 hlt4
  obtain ⟨c0, c1, c2, c3⟩ := BlkM.cells HG.out
  dsimp only at c0 c1 c2 c3
  go_wp2_with fail
  refine (isError_any ⟨2, 0, 0, none, 0, 0, []⟩ w6).mono ?_
  rintro e w7 ⟨rfl, hB7⟩
  rw [show inB 0 127 2 = true by decide]
  replace HG := Lib.hid (HG.out.below hB7 HG.out.lt)
  replace HOK := Lib.hid (HOK.out.low hB7)
  replace hL := Low.trans hL hB7
  clear hB7 c0 c1 c2 c3
  go_wp2_with (with_reducible refine wpList_load_msg_g rfl (.tmp 1) rfl w1.heap.size rfl ⟨129, 0, 5, bA, 0, bc, []⟩ HG.out ?_)
  refine (icput_any zero16 zero16 ⟨129, 0, 5, bA, 0, bc, []⟩ w7 rfl rfl zero_all zero_all HOK.out (by simp)).mono ?_
  rintro e w8 ⟨A8, c8, rfl, -, -, hB8⟩
  rw [show Mg.v ⟨129, 0, 5, bA, 0, bc, []⟩ = ⟨129, 0, 5, []⟩ from rfl, exM_len]
  replace hL := Low.trans hL hB8
  clear hB8
  go_wp2_with fail
  go_ret
  exact ⟨rfl, hL⟩

/-- what was put is parsed as what it was -/
theorem putM_len {s d : List Int} {x : Mb} (h : okM x = true) : (putM s d x).length = x.bs.length + 8 := by
  unfold putM
  rw [if_pos h, List.length_set, List.length_set, flatM_len]
theorem putM_fine {s d : List Int} {x : Mb} (vs : AllB s) (vd : AllB d) (h : okM x = true) (hw : 0 ≤ x.wd ∧ x.wd < 4294967296) (hb : AllB x.bs) : fineB s d 58 (putM s d x) = true := by
  unfold putM
  rw [if_pos h]
  exact fine_law vs vd (flatM_all h hw hb) 58 2 (by rw [flatM_len]; omega) rfl rfl rfl
theorem parse_putM {s d : List Int} {x : Mb} (vs : AllB s) (vd : AllB d) (h : okM x = true) (hw : 0 ≤ x.wd ∧ x.wd < 4294967296) (hb : AllB x.bs) : parseE s d (putM s d x) = 0 ∧ parseM s d (putM s d x) = x := by
  have hl := putM_len (s := s) (d := d) h
  have hf := putM_fine vs vd h hw hb
  have he : parseE s d (putM s d x) = 0 := by unfold parseE; rw [if_neg (by omega), if_pos hf]
  refine ⟨he, ?_⟩
  unfold parseM
  rw [if_pos he]
  unfold putM
  rw [if_pos h]
  generalize sumM s d x / 256 % 256 = a
  generalize sumM s d x % 256 = b
  obtain ⟨kd, cd, wd, bs⟩ := x
  unfold getM flatM four num4
  dsimp only at hw ⊢
  have e : wd / 16777216 * 16777216 + wd / 65536 % 256 * 65536 + wd / 256 % 256 * 256 + wd % 256 = wd := by omega
  simpa using e
end Go.Proofs.Ytheagbgojdlfaaa
