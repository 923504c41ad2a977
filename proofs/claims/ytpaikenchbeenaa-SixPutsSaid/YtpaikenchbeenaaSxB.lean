/- What six.fitted and six.Can tell of any header. Condition: its numbers are ints, its addresses 16 bytes. -/
import Derived.Test.YtpaikenchbeenaaSxA
namespace Go.Proofs.Ytpaikenchbeenaa
open Go.RowKit
set_option linter.unusedVariables false

theorem and_mask (k : Nat) (hk : k ≤ 62) (m : Int) (hm : m = 2 ^ k - 1) (n : Int) : bits .and .i64 n m = n % 2 ^ k := by
  have hp : (2 : Int) ^ k ≤ 2 ^ 62 := by
    have := Nat.pow_le_pow_right (show 0 < 2 by omega) hk
    exact_mod_cast this
  have hp0 : (0 : Int) < 2 ^ k := by
    have := Nat.pow_pos (n := k) (show 0 < 2 by omega)
    exact_mod_cast this
  have h2 : (BitVec.ofInt 64 m).toNat = 2 ^ k - 1 := by
    rw [BitVec.toNat_ofInt, hm]
    have : ((2 : Int) ^ k - 1) % ↑(2 ^ 64 : Nat) = 2 ^ k - 1 := Int.emod_eq_of_lt (by omega) (by omega)
    rw [this]
    have : ((2 : Int) ^ k) = ((2 ^ k : Nat) : Int) := by push_cast; rfl
    rw [this]; omega
  have hd : (2 : Int) ^ k ∣ ((2 ^ 64 : Nat) : Int) := by
    refine ⟨2 ^ (64 - k), ?_⟩
    rw [← Int.pow_add, show k + (64 - k) = 64 by omega]; rfl
  have h : ((BitVec.ofInt 64 n &&& BitVec.ofInt 64 m).toNat : Int) = n % 2 ^ k := by
    rw [BitVec.toNat_and, h2, BitVec.toNat_ofInt, Nat.and_two_pow_sub_one_eq_mod, Int.natCast_emod, Int.toNat_of_nonneg (Int.emod_nonneg _ (by decide))]
    have e : ((2 ^ k : Nat) : Int) = 2 ^ k := by push_cast; rfl
    rw [e]
    exact Int.emod_emod_of_dvd n hd
  show IntKind.i64.wrap ((BitVec.ofInt 64 n &&& BitVec.ofInt 64 m).toNat : Int) = _
  rw [h, IntKind.wrap_i64]
  have := Int.emod_nonneg n (show (2 : Int) ^ k ≠ 0 by omega)
  have := Int.emod_lt_of_pos n hp0
  omega
theorem and255 (n : Int) : bits .and .i64 n 255 = n % 256 := and_mask 8 (by decide) 255 (by decide) n
theorem and1048575 (n : Int) : bits .and .i64 n 1048575 = n % 1048576 := and_mask 20 (by decide) 1048575 (by decide) n
theorem and_65535 (n : Int) : bits .and .i64 n 65535 = n % 65536 := and_mask 16 (by decide) 65535 (by decide) n

def fitH (h : Hd) : Hd := ⟨h.cl % 256, h.lb % 1048576, h.ln % 65536, h.nx % 256, h.hp % 256, h.s, h.d⟩
def canB (h : Hd) : Bool := decide (0 ≤ h.cl ∧ h.cl ≤ 255 ∧ 0 ≤ h.lb ∧ h.lb ≤ 1048575 ∧ 0 ≤ h.ln ∧ h.ln ≤ 65535 ∧ 0 ≤ h.nx ∧ h.nx ≤ 255 ∧ 0 ≤ h.hp ∧ h.hp ≤ 255)
def canE (h : Hd) : Int := if canB h then 0 else 2
theorem eq_fit (h : Hd) : eqH h (fitH h) = canB h := by
  rw [Bool.eq_iff_iff]
  unfold eqH fitH canB
  simp only [Bool.and_eq_true, beq_iff_eq, decide_eq_true_eq, and_true]
  omega

set_option maxHeartbeats 200000 in
set_option maxRecDepth 100000 in
theorem fitted_any (h : Hd) (w : World) (hk : h.ok) :
    Calls Try.prog 20 #[headV h] w fun e w' => e = .returned (headV (fitH h)) ∧ Below w.heap.size w w' := by
  unfold headV
  have HO := Lib.hid hk
  have a0 := and255 h.cl
  have a1 := and1048575 h.lb
  have a2 := and_65535 h.ln
  have a3 := and255 h.nx
  have a4 := and255 h.hp
  clear hk
  go_enter Try.func20, Try.ntmps20
  go_wp2_with (first
    | ((with_reducible refine wpList_box_v rfl 25 (.tmp 0) rfl (headC h) rfl ?_); intro w1 HB1 hl1 hz1)
    | ((with_reducible refine wpList_alloc_v rfl 25 rfl (headC zeroH) (by kernel_rfl) ?_); intro w2 HZ hl2 hz2; refine Hid.out ?_))
  refine Lib.hid ?_
  have HB2 := Lib.hid (HB1.below hl2 HB1.lt)
  have HZ2 := Lib.hid HZ
  rw [hz1] at HZ2
  have hL := hl1.trans hl2
  have c0 := HB2.out.cell 0; have c1 := HB2.out.cell 1; have c2 := HB2.out.cell 2; have c3 := HB2.out.cell 3; have c4 := HB2.out.cell 4
  have f0 := HB2.out.frozen 0; have f1 := HB2.out.frozen 1; have f2 := HB2.out.frozen 2; have f3 := HB2.out.frozen 3; have f4 := HB2.out.frozen 4
  replace c0 : _ = some (Value.int .i64 h.cl) := c0
  replace c1 : _ = some (Value.int .i64 h.lb) := c1
  replace c2 : _ = some (Value.int .i64 h.ln) := c2
  replace c3 : _ = some (Value.int .i64 h.nx) := c3
  replace c4 : _ = some (Value.int .i64 h.hp) := c4
  clear HZ HB1 hl1 hl2 hz1 hz2
  have HS : Hid ((fitH h).s.length = 16) := Lib.hid HO.out.s
  have HD : Hid ((fitH h).d.length = 16) := Lib.hid HO.out.d
  go_wp2_with (with_reducible refine wpList_load_head rfl (.tmp 1) rfl w.heap.size rfl (fitH h) (Hid.out ?hb) HS.out HD.out (Hid.out ?_))
  case hb => exact Lib.hid (((((HB2.out.set_ 0 _).set_ 1 _).set_ 2 _).set_ 3 _).set_ 4 _)
  refine Lib.hid ?_
  have HZ3 := Lib.hid ((((((HZ2.out.far (p := ⟨w.heap.size, 0, none⟩) (by simp) (.int .i64 (h.cl % 256))).far (p := ⟨w.heap.size, 1, none⟩) (by simp) (.int .i64 (h.lb % 1048576)))).far (p := ⟨w.heap.size, 2, none⟩) (by simp) (.int .i64 (h.ln % 65536))).far (p := ⟨w.heap.size, 3, none⟩) (by simp) (.int .i64 (h.nx % 256))).far (p := ⟨w.heap.size, 4, none⟩) (by simp) (.int .i64 (h.hp % 256)))
  have hL3 := ((((hL.setCell (Nat.le_refl _) (p := ⟨w.heap.size, 0, none⟩) (.int .i64 (h.cl % 256))).setCell (Nat.le_refl _) (p := ⟨w.heap.size, 1, none⟩) (.int .i64 (h.lb % 1048576))).setCell (Nat.le_refl _) (p := ⟨w.heap.size, 2, none⟩) (.int .i64 (h.ln % 65536))).setCell (Nat.le_refl _) (p := ⟨w.heap.size, 3, none⟩) (.int .i64 (h.nx % 256))).setCell (Nat.le_refl _) (p := ⟨w.heap.size, 4, none⟩) (.int .i64 (h.hp % 256))
  clear HB2 HZ2 hL c0 c1 c2 c3 c4 f0 f1 f2 f3 f4
  generalize World.setCell _ _ _ = w3 at *
  go_wp2_with ((with_reducible refine wpList_store_head rfl (.tmp 2) (.tmp 23) rfl (w.heap.size + 1) rfl (fitH h) rfl zeroH HZ3.out rfl rfl HS.out HD.out ?_); intro w4 HG hb4 hz4)
  refine bodyPost_ret (v := .agg (headC (fitH h)).toArray) (results_cell_row Try.results20 _ _ (w.heap.size + 1) _ _ _ _ rfl HG Try.underlying25 rfl (by rw [head_size]; simp [headC_length HS.out HD.out])) rfl ⟨rfl, hL3.trans (hb4.mono (by omega))⟩

set_option maxHeartbeats 400000 in
theorem can_any (h : Hd) (w : World) (hk : h.ok) :
    Calls Try.prog 8 #[headV h] w fun e w' => e = .returned (.int .i64 (canE h)) ∧ Below w.heap.size w w' := by
  unfold headV
  have HO := Lib.hid hk
  clear hk
  go_enter Try.func8, Try.ntmps8
  go_wp2_with ((with_reducible refine wpList_box_v rfl 25 (.tmp 0) rfl (headC h) rfl ?_); intro w1 HB hL hz1)
  replace HB := Lib.hid HB
  refine wp_region_plan (.rd 0 (.rd 1 (.act 2 (.rd 3 .done)))) (by kernel_rfl) (by kernel_rfl) (fun _ _ d _ _ h => by cases d <;> exact h) (by kernel_rfl) ?_
  replace hL : Low w w1.drew := hL.trans (Below.drew (Below.refl _ _))
  replace HB : Hid (BlkH w1.drew w.heap.size h) := HB
  clear hz1
  generalize w1.drew = w2 at *
  iterate 2 (refine walkP_read (v := _) rfl (by rfl) (by intro y hy; exact exec_load_head rfl (HB.out.below hy HB.out.lt) HO.out.s HO.out.d) ?_; simp only [Act.put, List.setIfInBounds_toArray, List.set_cons_zero, List.set_cons_succ])
  refine walkP_act rfl (by rfl) (fun K hK => ?_)
  go_simp
  refine (fitted_any h w2 HO.out).mono ?_
  rintro e w3 ⟨rfl, hl⟩
  unfold headV
  go_simp
  refine hK _ _ hl ?_
  clear hK K
  replace hL := hL.trans hl
  clear hl
  have he := eq_head h (fitH h) HO.out.s HO.out.d HO.out.s HO.out.d
  rw [eq_fit] at he
  have HE := Lib.hid (show canE h = if canB h then 0 else 2 from rfl)
  generalize canB h = z at *
  cases z
  all_goals
    iterate 1 (refine walkP_read (v := _) rfl (by rfl) (by intro y hy; go_simp; try rfl) ?_; simp only [Act.put, List.setIfInBounds_toArray, List.set_cons_zero, List.set_cons_succ])
    unfold walkP
    go_wp2
    go_ret
    exact ⟨ret_i HE.out.symm, hL⟩
end Go.Proofs.Ytpaikenchbeenaa
