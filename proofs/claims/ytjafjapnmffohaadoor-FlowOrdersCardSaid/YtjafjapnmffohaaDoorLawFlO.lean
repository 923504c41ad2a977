/- The walk of harrierlaw14.FlowOrders: it answers true. Conditions: the slice holds flows; the library's tables hold what their texts lay. -/
import Derived.Test.YtjafjapnmffohaaDoorLawFlT
import Derived.Test.YtjafjapnmffohaaDoorFlQ
import Derived.Test.YtjafjapnmffohaaDoorFlR
set_option maxRecDepth 100000
namespace Go.Proofs.YtjafjapnmffohaaDoor
open Go.RowKit
set_option linter.unusedVariables false

theorem exec_ne_self {f : Operand → Value} {dd : Option Tmp} {x y : Operand} {tr ty : TypeId} {pos : String} {gd : Option (Nat × Bool)} {w : World} {a : Fw} (hx : f x = .agg (fwC a).toArray) (hy : f y = .agg (fwC a).toArray) (ha : a.s.length = 16) (ha2 : a.d.length = 16) :
    (execOp f ⟨dd, .binOp .neq 25 x y tr, ty, pos, #[], gd⟩).run Tryd.prog w = .ok (.value (.bool false)) w := by
  rw [exec_ne_fw hx hy ha ha2 ha ha2, eqFw_refl]
  rfl

set_option maxRecDepth 100000 in
set_option maxHeartbeats 25600000 in
theorem flo_walk (A : Option Addr) (n c : Nat) (l : List Fw) (w : World) (hl : Es fwE w w.heap.size A n l) (hp : Pow10 w) (ht : LibT w) :
    Calls Tryd.prog 4 #[.slice A n c] w fun e w' => e = .returned (.bool true) ∧ Below w.heap.size w w' := by
  have HES := Lib.hid hl
  have HP := Lib.hid hp
  have HT := Lib.hid ht
  clear hl hp ht
  by_cases hn60 : n ≤ 60
  rotate_left
  · have hd : decide ((n : Int) > 60) = true := decide_eq_true (by omega)
    go_enter Tryd.func4, Tryd.ntmps4
    go_wp2_with fail
    refine (fllives_any w HP.out HT.out).mono ?_
    rintro e w1 ⟨rfl, hL⟩
    go_wp2_with fail
    go_ret
    exact ⟨rfl, hL⟩
  have hd : decide ((n : Int) > 60) = false := decide_eq_false (by omega)
  go_enter Tryd.func4, Tryd.ntmps4
  go_wp2_with fail
  refine (fsort_any A n c l w hn60 HES.out).mono ?_
  rintro e w1 ⟨A1, m1, c1, o1, rfl, hm1, hE1, hS1, hB1⟩
  have HE1 := Lib.hid hE1
  have HS1 := Lib.hid hS1
  replace hB1 : Low w w1 := hB1
  clear hE1 hS1
  go_wp2_with fail
  refine (rsort_any A n c l w1 hn60 (HES.out.low hB1)).mono ?_
  rintro e w2 ⟨A2, m2, c2, o2, rfl, hm2, hE2, hS2, hB2⟩
  replace hB2 : Low w1 w2 := hB2
  obtain rfl : o1 = o2 := HS1.out.one hS2
  obtain rfl : m1 = m2 := by rw [← HE1.out.len, ← hE2.len]
  replace HE1 := Lib.hid (HE1.out.low hB2)
  have HE2 := Lib.hid hE2
  replace hB2 := hB1.trans hB2
  clear hE2 hS2 HS1 hm2 hB1 hd
  go_wp2_with fail
  go_loopw [5] (fun v5 wr => ∃ k : Nat, k ≤ m1 ∧ v5 = .int .i64 k ∧ Low w2 wr) (fun v5 _ => m1 - (intOf v5).toNat)
  case atStart => exact ⟨0, Nat.zero_le _, rfl, Low.refl _⟩
  case round =>
    obtain ⟨k, hk, rfl, hq⟩ := hrel
    by_cases hlt : k < m1
    · obtain ⟨b1, p1, rfl, hb1, -⟩ := HE1.out.mem (by omega)
      obtain ⟨b2, p2, rfl, hb2, -⟩ := HE2.out.mem (by omega)
      have HXO : Hid ((o1.getD k zeroF).ok) := Lib.hid (Elt.all_getD (E := fwE) HE1.out.all k)
      have HR1 : Hid (∀ y, Low w2 y → y.rangeAt b1 (p1 + k * 34) (fwC (o1.getD k zeroF))) := Lib.hid fun y hy => ((HE1.out.below hy).at_ hlt).2
      have HR2 : Hid (∀ y, Low w2 y → y.rangeAt b2 (p2 + k * 34) (fwC (o1.getD k zeroF))) := Lib.hid fun y hy => ((HE2.out.below hy).at_ hlt).2
      generalize o1.getD k zeroF = x at HXO HR1 HR2
      go_wp2_with fail
      refine wp_region_plan (.rd 0 (.rd 1 (.rd 2 (.rd 3 (.rd 4 (.rd 5 (.rd 6 (.rd 7 (.rd 8 (.done))))))))))
        (by kernel_rfl) (by kernel_rfl) (fun _ _ d _ _ h => by cases d <;> exact h) (by kernel_rfl) ?_
      have hq2 : Low w2 wr.drew := hq.trans (Below.drew (Below.refl _ _))
      generalize wr.drew = wd at *
      iterate 2 (refine walkP_read (v := _) rfl (by rfl) (by intro y hy; go_simp; try rfl) ?_; simp only [Act.put, List.setIfInBounds_toArray, List.set_cons_zero, List.set_cons_succ])
      refine walkP_read (v := .pointer (some ⟨b1, p1 + k * 34, none⟩)) rfl (by rfl) (by intro y hy; exact exec_index_fw rfl rfl hlt) ?_
      simp only [Act.put, List.setIfInBounds_toArray, List.set_cons_zero, List.set_cons_succ]
      refine walkP_read (v := .agg (fwC x).toArray) rfl (by rfl) (by intro y hy; exact exec_load_fwat rfl (HR1.out y (hq2.trans hy)) HXO.out.s HXO.out.d) ?_
      simp only [Act.put, List.setIfInBounds_toArray, List.set_cons_zero, List.set_cons_succ]
      iterate 2 (refine walkP_read (v := _) rfl (by rfl) (by intro y hy; go_simp; try rfl) ?_; simp only [Act.put, List.setIfInBounds_toArray, List.set_cons_zero, List.set_cons_succ])
      refine walkP_read (v := .pointer (some ⟨b2, p2 + k * 34, none⟩)) rfl (by rfl) (by intro y hy; exact exec_index_fw rfl rfl hlt) ?_
      simp only [Act.put, List.setIfInBounds_toArray, List.set_cons_zero, List.set_cons_succ]
      refine walkP_read (v := .agg (fwC x).toArray) rfl (by rfl) (by intro y hy; exact exec_load_fwat rfl (HR2.out y (hq2.trans hy)) HXO.out.s HXO.out.d) ?_
      simp only [Act.put, List.setIfInBounds_toArray, List.set_cons_zero, List.set_cons_succ]
      refine walkP_read (v := .bool false) rfl (by rfl) (by intro y hy; exact exec_ne_self (a := x) rfl rfl HXO.out.s HXO.out.d) ?_
      simp only [Act.put, List.setIfInBounds_toArray, List.set_cons_zero, List.set_cons_succ]
      unfold walkP
      clear HR1 HR2 hq
      go_wp2_with fail
      go_roundw
      case rel => exact ⟨k + 1, by omega, by go_num, hq2⟩
      case measure => simp [intOf]; omega
    · obtain rfl : k = m1 := by omega
      have hL := hB2.trans hq
      clear hB2 hq HE1 HE2
      go_wp2_with fail
      obtain ⟨wo, rfl⟩ : ∃ wo, wo = wr := ⟨_, rfl⟩
      go_loopw [6] (fun v6 wq => ∃ k : Nat, 1 ≤ k ∧ (k ≤ n ∨ k = 1) ∧ v6 = .int .i64 k ∧ Low wo wq) (fun v6 _ => n + 1 - (intOf v6).toNat)
      case atStart => exact ⟨1, Nat.le_refl _, .inr rfl, rfl, Low.refl _⟩
      case round =>
        obtain ⟨i, hi0, hi, rfl, hq⟩ := hrel
        by_cases hlt : i < n
        · obtain ⟨b0, o0, rfl, hb0, -⟩ := HES.out.mem (by omega)
          obtain ⟨j, hj⟩ : ∃ j, i = j + 1 := ⟨i - 1, by omega⟩
          have HA : Hid ((l.getD j zeroF).ok) := Lib.hid (Elt.all_getD (E := fwE) HES.out.all j)
          have HB : Hid ((l.getD i zeroF).ok) := Lib.hid (Elt.all_getD (E := fwE) HES.out.all i)
          have HRA : Hid (∀ y, Low wo y → y.rangeAt b0 (o0 + j * 34) (fwC (l.getD j zeroF))) := Lib.hid fun y hy => ((HES.out.below (hL.trans hy)).at_ (i := j) (by omega)).2
          have HRB : Hid (∀ y, Low wo y → y.rangeAt b0 (o0 + i * 34) (fwC (l.getD i zeroF))) := Lib.hid fun y hy => ((HES.out.below (hL.trans hy)).at_ (i := i) hlt).2
          generalize l.getD j zeroF = a at HA HRA
          generalize l.getD i zeroF = b at HB HRB
          have HC1 := Lib.hid (fun u => fless_ext a b u HA.out HB.out)
          have HC2 := Lib.hid (fun u => rfless_any a b u HA.out HB.out)
          unfold fwV at HC1 HC2
          generalize lessF a b = q at HC1 HC2
          have hwk : IntKind.i64.wrap ((i : Int) - 1) = (j : Int) := by rw [wraps_i64 _ (by omega) (by omega)]; omega
          replace hj := Lib.hid hj
          go_wp2_with fail
          refine wp_region_plan (.rd 0 (.rd 1 (.rd 2 (.rd 3 (.rd 4 (.rd 5 (.rd 6 (.rd 7 (.rd 8 (.rd 10 (.rd 11 (.rd 12 (.rd 13 (.rd 14 (.rd 15 (.rd 16 (.rd 17 (.rd 18 (.act 9 (.act 19 (.rd 20 (.done))))))))))))))))))))))
            (by kernel_rfl) (by kernel_rfl) (fun _ _ d _ _ h => by cases d <;> exact h) (by kernel_rfl) ?_
          have hq2 : Low wo wr.drew := hq.trans (Below.drew (Below.refl _ _))
          generalize wr.drew = wd at *
          clear hq
          iterate 2 (refine walkP_read (v := _) rfl (by rfl) (by intro y hy; go_simp; try rfl) ?_; simp only [Act.put, List.setIfInBounds_toArray, List.set_cons_zero, List.set_cons_succ])
          refine walkP_read (v := .int .i64 (j : Int)) rfl (by rfl) (by intro y hy; go_simp; try rw [hwk]) ?_
          simp only [Act.put, List.setIfInBounds_toArray, List.set_cons_zero, List.set_cons_succ]
          refine walkP_read (v := .pointer (some ⟨b0, o0 + j * 34, none⟩)) rfl (by rfl) (by intro y hy; exact exec_index_fw rfl rfl (by have := hj.out; omega)) ?_
          simp only [Act.put, List.setIfInBounds_toArray, List.set_cons_zero, List.set_cons_succ]
          refine walkP_read (v := .agg (fwC a).toArray) rfl (by rfl) (by intro y hy; exact exec_load_fwat rfl (HRA.out y (hq2.trans hy)) HA.out.s HA.out.d) ?_
          simp only [Act.put, List.setIfInBounds_toArray, List.set_cons_zero, List.set_cons_succ]
          iterate 2 (refine walkP_read (v := _) rfl (by rfl) (by intro y hy; go_simp; try rfl) ?_; simp only [Act.put, List.setIfInBounds_toArray, List.set_cons_zero, List.set_cons_succ])
          refine walkP_read (v := .pointer (some ⟨b0, o0 + i * 34, none⟩)) rfl (by rfl) (by intro y hy; exact exec_index_fw rfl rfl hlt) ?_
          simp only [Act.put, List.setIfInBounds_toArray, List.set_cons_zero, List.set_cons_succ]
          refine walkP_read (v := .agg (fwC b).toArray) rfl (by rfl) (by intro y hy; exact exec_load_fwat rfl (HRB.out y (hq2.trans hy)) HB.out.s HB.out.d) ?_
          simp only [Act.put, List.setIfInBounds_toArray, List.set_cons_zero, List.set_cons_succ]
          iterate 2 (refine walkP_read (v := _) rfl (by rfl) (by intro y hy; go_simp; try rfl) ?_; simp only [Act.put, List.setIfInBounds_toArray, List.set_cons_zero, List.set_cons_succ])
          refine walkP_read (v := .int .i64 (j : Int)) rfl (by rfl) (by intro y hy; go_simp; try rw [hwk]) ?_
          simp only [Act.put, List.setIfInBounds_toArray, List.set_cons_zero, List.set_cons_succ]
          refine walkP_read (v := .pointer (some ⟨b0, o0 + j * 34, none⟩)) rfl (by rfl) (by intro y hy; exact exec_index_fw rfl rfl (by have := hj.out; omega)) ?_
          simp only [Act.put, List.setIfInBounds_toArray, List.set_cons_zero, List.set_cons_succ]
          refine walkP_read (v := .agg (fwC a).toArray) rfl (by rfl) (by intro y hy; exact exec_load_fwat rfl (HRA.out y (hq2.trans hy)) HA.out.s HA.out.d) ?_
          simp only [Act.put, List.setIfInBounds_toArray, List.set_cons_zero, List.set_cons_succ]
          iterate 2 (refine walkP_read (v := _) rfl (by rfl) (by intro y hy; go_simp; try rfl) ?_; simp only [Act.put, List.setIfInBounds_toArray, List.set_cons_zero, List.set_cons_succ])
          refine walkP_read (v := .pointer (some ⟨b0, o0 + i * 34, none⟩)) rfl (by rfl) (by intro y hy; exact exec_index_fw rfl rfl hlt) ?_
          simp only [Act.put, List.setIfInBounds_toArray, List.set_cons_zero, List.set_cons_succ]
          refine walkP_read (v := .agg (fwC b).toArray) rfl (by rfl) (by intro y hy; exact exec_load_fwat rfl (HRB.out y (hq2.trans hy)) HB.out.s HB.out.d) ?_
          simp only [Act.put, List.setIfInBounds_toArray, List.set_cons_zero, List.set_cons_succ]
          clear HRA HRB HA HB hj
          refine walkP_act rfl (by rfl) (fun K hK => ?_)
          go_simp
          refine (HC1.out wd).mono ?_
          rintro e w8 ⟨rfl, hl⟩
          replace hl : Low wd w8 := hl.low
          go_simp
          refine hK _ _ hl ?_
          clear hK K
          replace hq2 := hq2.trans hl
          clear hl
          refine walkP_act rfl (by rfl) (fun K hK => ?_)
          go_simp
          refine (HC2.out w8).mono ?_
          rintro e w9 ⟨rfl, hl⟩
          replace hl : Low w8 w9 := hl
          go_simp
          refine hK _ _ hl ?_
          clear hK K
          replace hq2 := hq2.trans hl
          clear hl HC1 HC2
          have hqq : (q != q) = false := by cases q <;> rfl
          refine walkP_read (v := .bool false) rfl (by rfl) (by intro y hy; go_simp) ?_
          simp only [Act.put, List.setIfInBounds_toArray, List.set_cons_zero, List.set_cons_succ]
          unfold walkP
          go_wp2_with fail
          go_roundw
          case rel => exact ⟨i + 1, by omega, .inl (by omega), by go_num, hq2⟩
          case measure => simp [intOf]; omega
        · have hd : decide ((i : Int) < (n : Int)) = false := decide_eq_false (by omega)
          go_wp2_with fail
          refine (fllives_any wr (HP.out.low (hL.trans hq)) (HT.out.low (hL.trans hq))).mono ?_
          rintro e w3 ⟨rfl, hl⟩
          replace hl : Low wr w3 := hl
          replace hL := Low.trans (hL.trans hq) hl
          clear hl hq
          go_wp2_with fail
          go_ret
          exact ⟨rfl, hL⟩
end Go.Proofs.YtjafjapnmffohaaDoor
