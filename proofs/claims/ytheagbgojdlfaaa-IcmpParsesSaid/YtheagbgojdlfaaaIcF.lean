/- What the document's Same answers of two messages that say the same: true. And the answers to an echo. Condition: the body is at most 2^47 - 4096 bytes long. -/
import Derived.Test.YtheagbgojdlfaaaIcA
import Derived.Test.YtheagbgojdlfaaaOctL
import Derived.Test.YtheagbgojdlfaaaOctD
import Derived.Test.YtheagbgojdlfaaaReg3
namespace Go.Proofs.Ytheagbgojdlfaaa
open Go.RowKit
set_option linter.unusedVariables false

set_option maxRecDepth 100000 in
set_option maxHeartbeats 1600000 in
theorem icsame_eq (a b : Mg) (w : World) (ha : a.ok w w.heap.size) (hb : b.ok w w.heap.size) (h : a.v = b.v) :
    Calls Try.prog 12 #[msgV a, msgV b] w fun e w' => e = .returned (.bool true) ∧ Below w.heap.size w w' := by
  unfold msgV
  obtain ⟨kd, cd, wd, bA, bm, bc, bs⟩ := a
  obtain ⟨kd', cd', wd', bA', bm', bc', bs'⟩ := b
  unfold Mg.v at h
  simp only [Mb.mk.injEq] at h
  obtain ⟨rfl, rfl, rfl, rfl⟩ := h
  have HA := Lib.hid ha
  have HB := Lib.hid hb
  clear ha hb
  go_enter Try.func12, Try.ntmps12
  go_wp2_with (first
    | ((with_reducible refine wpList_box_msg rfl (.tmp 0) rfl ⟨kd, cd, wd, bA, bm, bc, bs⟩ rfl ?_); intro w1 HK1 hl1 hz1)
    | ((with_reducible refine wpList_box_msg rfl (.tmp 1) rfl ⟨kd, cd, wd, bA', bm', bc', bs⟩ rfl ?_); intro w2 HK2 hl2 hz2; refine Hid.out ?_))
  refine Lib.hid ?_
  rw [hz1] at HK2
  replace HK1 := HK1.below hl2 HK1.lt
  have hL : Low w w2 := hl1.trans hl2
  clear hl1 hl2 hz1 hz2
  obtain ⟨a0, a1, a2, a3⟩ := BlkM.cells HK1
  obtain ⟨b0, b1, b2, b3⟩ := BlkM.cells HK2
  dsimp only at a0 a1 a2 a3 b0 b1 b2 b3
  have cv1 := conv_bs (c := bc) (HA.out.low hL).bs
  have cv2 := conv_bs (c := bc') (HB.out.low hL).bs
  dsimp only at cv1 cv2
  clear HK1 HK2
  generalize strOfNums bs = sx at *
  go_wp2_with fail
  go_ret
  exact ⟨rfl, hL⟩

/-- the answer to an echo, and whether there is one -/
def replyB (x : Mb) : Bool := decide (x.kd = 128 ∧ x.cd = 0)
def replyM (x : Mb) : Mb := if replyB x = true then ⟨129, 0, x.wd, x.bs⟩ else zeroMb
theorem replyM_cases (x : Mb) : (¬ x.kd = 128 ∧ replyB x = false ∧ replyM x = zeroMb) ∨ (x.kd = 128 ∧ ¬ x.cd = 0 ∧ replyB x = false ∧ replyM x = zeroMb) ∨ (x.kd = 128 ∧ x.cd = 0 ∧ replyB x = true ∧ replyM x = ⟨129, 0, x.wd, x.bs⟩) := by
  by_cases h1 : x.kd = 128
  · by_cases h2 : x.cd = 0
    · have e : replyB x = true := by unfold replyB; simp [h1, h2]
      exact .inr (.inr ⟨h1, h2, e, by unfold replyM; rw [if_pos e]⟩)
    · have e : replyB x = false := by unfold replyB; simp [h1, h2]
      exact .inr (.inl ⟨h1, h2, e, by unfold replyM; rw [e]; rfl⟩)
  · have e : replyB x = false := by unfold replyB; simp [h1]
    exact .inl ⟨h1, e, by unfold replyM; rw [e]; rfl⟩

set_option maxRecDepth 100000 in
set_option maxHeartbeats 1600000 in
theorem icreply_any (m : Mg) (w : World) (hm : m.ok w w.heap.size) :
    Calls Try.prog 13 #[msgV m] w (GivesMF w (replyM m.v) (.bool (replyB m.v))) := by
  unfold msgV
  have HM := Lib.hid hm
  clear hm
  have hcs := replyM_cases m.v
  rcases hcs with ⟨h1, e1, e2⟩ | ⟨h1, h2, e1, e2⟩ | ⟨h1, h2, e1, e2⟩
  case' inl => have h1 : (m.kd == 128) = false := beq_false_of_ne h1
  case' inr.inl =>
    have h1 : (m.kd == 128) = true := beq_iff_eq.2 h1
    have h2 : (m.cd == 0) = false := beq_false_of_ne h2
  case' inr.inr =>
    have h1 : (m.kd == 128) = true := beq_iff_eq.2 h1
    have h2 : (m.cd == 0) = true := beq_iff_eq.2 h2
  all_goals
    have HE := Lib.hid (And.intro e1 e2)
    clear e1 e2
    go_enter Try.func13, Try.ntmps13
    go_wp2_with (first
      | ((with_reducible refine wpList_box_msg rfl (.tmp 0) rfl m rfl ?_); intro w1 HK1 hl1 hz1)
      | ((with_reducible refine wpList_alloc_msg rfl rfl ?_); intro w2 HZ hl2 hz2; refine Hid.out ?_))
    refine Lib.hid ?_
    rw [hz1] at HZ
    have hL := hl1.trans hl2
    replace HK1 := HK1.below hl2 HK1.lt
    clear hl1 hl2
    obtain ⟨c0, c1, c2, c3⟩ := BlkM.cells HK1
  case' inl =>
    go_wp2_with ((refine wpList_store_msg rfl (.tmp 2) (.tmp 4) rfl (w.heap.size + 1) rfl zeroM rfl zeroM HZ ?_); intro w3 HG hb3 ho3 hz3)
    exact ret_msg Try.results13 rfl rfl HG (GivesMF.of (by rw [HE.out.2]; rfl) (by rw [HE.out.1]; rfl) (zeroM_ok _ _) (Below.trans hL (hb3.mono (by omega))) (zeroM_from _)) rfl
  case' inr.inl =>
    go_wp2_with ((refine wpList_store_msg rfl (.tmp 2) (.tmp 4) rfl (w.heap.size + 1) rfl zeroM rfl zeroM HZ ?_); intro w3 HG hb3 ho3 hz3)
    exact ret_msg Try.results13 rfl rfl HG (GivesMF.of (by rw [HE.out.2]; rfl) (by rw [HE.out.1]; rfl) (zeroM_ok _ _) (Below.trans hL (hb3.mono (by omega))) (zeroM_from _)) rfl
  case' inr.inr =>
    go_wp2_with fail
    refine wp_region_planS (fun y => Below (w.heap.size + 1) w2.drew y) (.rd 0 (.rd 1 (.rd 2 (.rd 3 (.act 4 (.act 5 (.rd 6 (.act 7 (.rd 8 (.done)))))))))) (by kernel_rfl) (by kernel_rfl) (fun _ _ d _ _ h => by cases d <;> exact h) (by kernel_rfl) (Below.refl _ _) ?_
    replace hL := hL.trans (Below.drew (Below.refl w2.heap.size w2))
    replace HZ : BlkM w2.drew (w.heap.size + 1) zeroM := HZ
    replace HK1 : BlkM w2.drew w.heap.size m := HK1
    replace c2 : w2.drew.cell? ⟨w.heap.size, 2, none⟩ = some (.int .u32 m.wd) := c2
    replace c3 : w2.drew.cell? ⟨w.heap.size, 3, none⟩ = some (.slice m.bA m.bm m.bc) := c3
    have hzz : w2.drew.heap.size = w.heap.size + 2 := by rw [show w2.drew.heap.size = w2.heap.size from rfl, hz2, hz1]
    replace hzz := Lib.hid hzz
    clear c0 c1 h1 h2 HK1 hz2 hz1
    generalize w2.drew = w3 at *
    have hlt : w.heap.size < w.heap.size + 1 := by omega
    iterate 4 (refine walkS_read (v := _) rfl (by rfl) (by
      intro y hy
      have e2 := (hy.cell (p := ⟨w.heap.size, 2, none⟩) hlt).trans c2; have e3 := (hy.cell (p := ⟨w.heap.size, 3, none⟩) hlt).trans c3
      go_simp; try rfl) ?_; simp only [Act.put, List.setIfInBounds_toArray, List.set_cons_zero, List.set_cons_succ])
    clear c2 c3
    refine walkS_act rfl (by rfl) (fun K hK => ?_)
    go_simp
    have hla := Low.alloc w3 (.cells #[.slice m.bA m.bm m.bc] 27)
    refine hK _ _ (hla.mono (by have := hzz.out; omega)) ?_
    clear hK K
    have hrow : (w3.alloc (.cells #[.slice m.bA m.bm m.bc] 27)).heap[w3.heap.size]? = some (.cells #[.slice m.bA m.bm m.bc] 27) := heap_alloc_new w3 _
    have hbm := (HM.out.low (hL.trans hla)).bs
    replace HZ := HZ.below hla HZ.lt
    obtain ⟨gR, hgR⟩ : ∃ g, g = w3.heap.size := ⟨_, rfl⟩
    rw [← hgR] at hrow ⊢
    have hlb : Below (w.heap.size + 1) w3 (w3.alloc (.cells #[.slice m.bA m.bm m.bc] 27)) := hla.mono (by have := hzz.out; omega)
    have hz4 : w.heap.size + 2 ≤ (w3.alloc (.cells #[.slice m.bA m.bm m.bc] 27)).heap.size := by have := hla.size; have := hzz.out; omega
    clear hla hgR hzz
    generalize w3.alloc (.cells #[.slice m.bA m.bm m.bc] 27) = w4 at *
    refine walkS_act rfl (by rfl) (fun K hK => ?_)
    go_simp
    refine (join1 m.bA m.bm m.bc gR 27 m.bs w4 (by have := HM.out.bm; omega) hrow hbm).mono ?_
    rintro e w5 ⟨v, rfl, g, rfl, hg, hk, hl5, ha5, hl⟩
    go_simp
    replace hlb := Below.trans hlb (hl.mono (by omega))
    refine hK _ _ hlb ?_
    clear hK K hrow hbm
    replace HZ := HZ.below hl HZ.lt
    clear hl
    iterate 1 (refine walkS_read (v := _) rfl (by rfl) (by intro y hy; go_simp; try rfl) ?_; simp only [Act.put, List.setIfInBounds_toArray, List.set_cons_zero, List.set_cons_succ])
    refine walkS_act rfl (by rfl) (fun K hK => ?_)
    refine wp_store_row 29 (.tmp 2) (.tmp 20) rfl (w.heap.size + 1) (msgC ⟨129, 0, m.wd, some ⟨g, 0, none⟩, m.bm, m.bm, m.bs⟩).toArray rfl rfl 29 _ HZ (by rw [msg_size]; rfl) rfl (msgC_one _) ?_
    have hBE := hlb.trans (low_setRow w5 (w.heap.size + 1) (msgC ⟨129, 0, m.wd, some ⟨g, 0, none⟩, m.bm, m.bm, m.bs⟩).toArray (Nat.le_refl _))
    refine hK _ _ hBE ?_
    clear hK K
    have HE2 := BlkV.setRow HZ (msgC ⟨129, 0, m.wd, some ⟨g, 0, none⟩, m.bm, m.bm, m.bs⟩)
    have hok : Mg.ok (w5.setRow (w.heap.size + 1) (msgC ⟨129, 0, m.wd, some ⟨g, 0, none⟩, m.bm, m.bm, m.bs⟩).toArray) (w5.setRow (w.heap.size + 1) (msgC ⟨129, 0, m.wd, some ⟨g, 0, none⟩, m.bm, m.bm, m.bs⟩).toArray).heap.size ⟨129, 0, m.wd, some ⟨g, 0, none⟩, m.bm, m.bm, m.bs⟩ :=
      ⟨by unfold i64ok; dsimp only; omega, by unfold i64ok; dsimp only; omega, HM.out.wd, HM.out.bm, hk.other ha5 (g' := w.heap.size + 1) (by omega) (fun p hp => World.cell?_of_block (by simp [World.setRow, Array.getElem?_modify, Ne.symm hp])) (by simpa using hk.lt) hl5⟩
    replace hBE : Low w (w5.setRow (w.heap.size + 1) (msgC ⟨129, 0, m.wd, some ⟨g, 0, none⟩, m.bm, m.bm, m.bs⟩).toArray) := Below.trans hL (hBE.mono (by omega))
    clear HZ hk hlb
    generalize w5.setRow (w.heap.size + 1) (msgC ⟨129, 0, m.wd, some ⟨g, 0, none⟩, m.bm, m.bm, m.bs⟩).toArray = wE at *
    simp only [Act.put]
    iterate 1 (refine walkS_read (v := _) rfl (by rfl) (by intro y hy; go_simp; try rfl) ?_; simp only [Act.put, List.setIfInBounds_toArray, List.set_cons_zero, List.set_cons_succ])
    unfold walkS
    go_wp2
    exact ret_msg Try.results13 rfl rfl HE2 (GivesMF.of (by rw [HE.out.2]; rfl) (by rw [HE.out.1]; rfl) hok hBE (MFrom.at_ (by omega))) rfl

set_option maxRecDepth 100000 in
set_option maxHeartbeats 1600000 in
theorem ricreply_any (m : Mg) (w : World) (hm : m.ok w w.heap.size) :
    Calls Try.prog 14 #[msgV m] w (GivesM w (replyM m.v) (.bool (replyB m.v))) := by
  unfold msgV
  have HM := Lib.hid hm
  clear hm
  have hcs := replyM_cases m.v
  rcases hcs with ⟨h1, e1, e2⟩ | ⟨h1, h2, e1, e2⟩ | ⟨h1, h2, e1, e2⟩
  case' inl => have h1 : (m.kd == 128) = false := beq_false_of_ne h1
  case' inr.inl =>
    have h1 : (m.kd == 128) = true := beq_iff_eq.2 h1
    have h2 : (m.cd == 0) = false := beq_false_of_ne h2
  case' inr.inr =>
    have HC0 := Lib.hid (show m.cd = 0 from h2)
    have h1 : (m.kd == 128) = true := beq_iff_eq.2 h1
    have h2 : (m.cd == 0) = true := beq_iff_eq.2 h2
  all_goals
    have HE := Lib.hid (And.intro e1 e2)
    clear e1 e2
    go_enter Try.func14, Try.ntmps14
    go_wp2_with (first
      | ((with_reducible refine wpList_box_msg rfl (.tmp 0) rfl m rfl ?_); intro w1 HK1 hl1 hz1)
      | ((with_reducible refine wpList_alloc_msg rfl rfl ?_); intro w2 HZ hl2 hz2; refine Hid.out ?_))
    refine Lib.hid ?_
    rw [hz1] at HZ
    have hL := hl1.trans hl2
    replace HK1 := HK1.below hl2 HK1.lt
    clear hl1 hl2
    obtain ⟨c0, c1, c2, c3⟩ := BlkM.cells HK1
  case' inl =>
    go_wp2_with ((refine wpList_store_msg rfl (.tmp 2) (.tmp 14) rfl (w.heap.size + 1) rfl zeroM rfl zeroM HZ ?_); intro w3 HG hb3 ho3 hz3)
    exact ret_msg Try.results14 rfl rfl HG (GivesM.of (by rw [HE.out.2]; rfl) (by rw [HE.out.1]; rfl) (zeroM_ok _ _) (Below.trans hL (hb3.mono (by omega)))) rfl
  case' inr.inl =>
    go_wp2_with ((refine wpList_store_msg rfl (.tmp 2) (.tmp 14) rfl (w.heap.size + 1) rfl zeroM rfl zeroM HZ ?_); intro w3 HG hb3 ho3 hz3)
    exact ret_msg Try.results14 rfl rfl HG (GivesM.of (by rw [HE.out.2]; rfl) (by rw [HE.out.1]; rfl) (zeroM_ok _ _) (Below.trans hL (hb3.mono (by omega)))) rfl
  case' inr.inr =>
    have f0 := HK1.frozen 0
    have hKX : BlkM (w2.setCell ⟨w.heap.size, 0, none⟩ (.int .i64 129)) w.heap.size { m with kd := 129 } := HK1.set_ 0 (.int .i64 129)
    have hZX : BlkM (w2.setCell ⟨w.heap.size, 0, none⟩ (.int .i64 129)) (w.heap.size + 1) zeroM := HZ.far (by show w.heap.size + 1 ≠ w.heap.size; omega) _
    have hLX : Low w (w2.setCell ⟨w.heap.size, 0, none⟩ (.int .i64 129)) := hL.setCell (Nat.le_refl _) _
    have hzX : (w2.setCell ⟨w.heap.size, 0, none⟩ (.int .i64 129)).heap.size = w.heap.size + 2 := by simp [hz2, hz1]
    have HKX := Lib.hid hKX
    have HZX := Lib.hid hZX
    clear HK1 HZ hL hKX hZX
    go_wp2_with (with_reducible refine wpList_load_msg rfl (.tmp 1) rfl w.heap.size rfl { m with kd := 129 } HKX.out (Hid.out ?_))
    refine Lib.hid ?_
    clear f0 c0 c1 c2 c3
    generalize w2.setCell ⟨w.heap.size, 0, none⟩ (.int .i64 129) = w3 at *
    go_wp2_with ((refine wpList_store_msg rfl (.tmp 2) (.tmp 13) rfl (w.heap.size + 1) rfl { m with kd := 129 } rfl zeroM HZX.out ?_); intro w4 HG hb4 ho4 hz4)
    have hbx := (HM.out.low hLX).bs
    have hok : Mg.ok w4 w4.heap.size { m with kd := 129 } :=
      ⟨by unfold i64ok; dsimp only; omega, HM.out.cd, HM.out.wd, HM.out.bm, ((HM.out.bs).below' (Below.trans hLX (hb4.mono (by omega))) (by omega))⟩
    exact ret_msg Try.results14 rfl rfl HG (GivesM.of (by rw [HE.out.2]; unfold Mg.v; dsimp only; rw [HC0.out]) (by rw [HE.out.1]; rfl) hok (Below.trans hLX (hb4.mono (by omega)))) rfl
end Go.Proofs.Ytheagbgojdlfaaa
