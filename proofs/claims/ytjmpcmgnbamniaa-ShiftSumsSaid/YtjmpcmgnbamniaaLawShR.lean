/- The walk of ShiftRows, given what the program's own functions tell. No condition. -/
import Derived.Test.YtjmpcmgnbamniaaShG
import Derived.Test.YtjmpcmgnbamniaaJReg
set_option maxRecDepth 100000
namespace Go.Proofs.Ytjmpcmgnbamniaa
open Go.RowKit
set_option linter.unusedVariables false

theorem exec_load_midS {P : Program} {f : Operand → Value} {dd : Option Tmp} {x : Operand} {ty ty2 : TypeId} {pos : String} {gd : Option (Nat × Bool)} {w : World} {b p : Nat} {cs : List Value} {d : TypeDesc} (hx : f x = .pointer (some ⟨b, p, none⟩)) (hc : w.rangeAt b p cs)
    (hu : P.underlying ty = some d) (hd : d.isRow = true) (hi : (P.info? ty).map (·.size) = some cs.length) :
    (execOp f ⟨dd, .load ty x, ty2, pos, #[], gd⟩).run P w = .ok (.value (.agg cs.toArray)) w := by
  unfold execOp
  simp only [hx, Instr.loadAt, Instr.sureAddr, Sem.run_bind, Sem.run_pure, Result.andThen_ok, run_loadVar_mid w b p ty cs d hc hu hd hi]
theorem eqRws_refl (a : Rws) : eqRws a a = true := by simp [eqRws]

theorem rangeAt_belowS {w w' : World} {B b p : Nat} {cs : List Value} (h : w.rangeAt b p cs) (hb : Below B w w') (hlt : b < B) : w'.rangeAt b p cs := fun j v hv => (hb.cell (p := ⟨b, p + j, none⟩) hlt).trans (h j v hv)
set_option maxHeartbeats 3200000 in
theorem shr_walk (HR : ShRows) (HM : ShMoveds) (HT : ShTurneds) (A B : Option Addr) (n c k d : Nat) (was is_ : List Int) (w : World)
    (hn : n ≤ 140737488355328) (hnc : n ≤ c) (hk : k ≤ 140737488355328) (hkd : k ≤ d) (ha : Ns w w.heap.size A n was) (hb : Ns w w.heap.size B k is_) :
    Calls Try.prog 3 #[.slice A n c, .slice B k d] w fun e w' => e = .returned (.bool true) ∧ Low w w' := by
  have HML := Lib.hid fun u => shlives_any HR HM HT u
  have HA := Lib.hid ha
  have HB := Lib.hid hb
  have HRR := Lib.hid HR
  clear HR HM HT ha hb
  have hcs : 200 < n ∨ (n ≤ 200 ∧ 200 < k) ∨ (n ≤ 200 ∧ k ≤ 200) := by omega
  rcases hcs with h1 | ⟨h1, h2⟩ | ⟨h1, h2⟩
  · have g1 : (200 : Int) < n := by omega
    go_enter Try.func3, Try.ntmps3
    go_wp2_with fail
    refine (HML.out w).mono ?_
    rintro e w4 ⟨rfl, hl⟩
    go_wp2_with fail
    go_ret
    exact ⟨rfl, hl⟩
  · have g1 : ¬ (200 : Int) < n := by omega
    have g2 : (200 : Int) < k := by omega
    go_enter Try.func3, Try.ntmps3
    go_wp2_with fail
    refine (HML.out w).mono ?_
    rintro e w4 ⟨rfl, hl⟩
    go_wp2_with fail
    go_ret
    exact ⟨rfl, hl⟩
  · have g1 : ¬ (200 : Int) < n := by omega
    have g2 : ¬ (200 : Int) < k := by omega
    have HFEW := Lib.hid (show (rowsS was is_).length ≤ 400 by have h3 := rowsS_few was is_; have h4 := HA.out.len; have h5 := HB.out.len; omega)
    go_enter Try.func3, Try.ntmps3
    go_wp2_with fail
    refine (HRR.out A B n c k d was is_ w h1 h2 hnc hkd HA.out HB.out).mono ?_
    rintro e w2 ⟨A1, c1, rfl, hE1, hl⟩
    replace HA := Lib.hid (HA.out.below' hl hl.size)
    replace HB := Lib.hid (HB.out.below' hl hl.size)
    have hL := Lib.hid hl
    have HE1 := Lib.hid hE1
    clear hl hE1
    go_wp2_with fail
    refine (rrows_any A B n c k d was is_ w2 h1 h2 HA.out HB.out).mono ?_
    rintro e w3 ⟨A2, c2, rfl, hE2, hl⟩
    replace hL := Lib.hid (hL.out.trans hl)
    replace HE1 := Lib.hid (HE1.out.below' hl hl.size)
    have HE2 := Lib.hid hE2
    clear hl hE2 HA HB
    generalize rowsS was is_ = R at *
    obtain ⟨m, hm⟩ : ∃ m, m = R.length := ⟨_, rfl⟩
    rw [← hm] at HE1 HE2 HFEW ⊢
    have hm4 := HFEW.out
    clear hm
    go_wp2_with fail
    go_loopw [7] (fun v wr => ∃ i : Nat, i ≤ m ∧ v = .int .i64 i ∧ Hid (Low w3 wr)) (fun v _ => m - (intOf v).toNat)
    case atStart => exact ⟨0, by omega, rfl, Lib.hid (Low.refl _)⟩
    case round =>
      obtain ⟨i, hi, rfl, hL3⟩ := hrel
      by_cases hlt : i < m
      · obtain ⟨b1, o1, rfl, _, _⟩ := HE1.out.mem (by omega)
        obtain ⟨b2, o2, rfl, _, _⟩ := HE2.out.mem (by omega)
        obtain ⟨k1, r1⟩ := HE1.out.at_ hlt
        obtain ⟨k2, r2⟩ := HE2.out.at_ hlt
        have HR1 := Lib.hid (show ∀ u, Low w3 u → u.rangeAt b1 (o1 + i * 4) (rwsC (R.getD i rwsE.zero)) from fun u hu => rangeAt_belowS r1 hu k1)
        have HR2 := Lib.hid (show ∀ u, Low w3 u → u.rangeAt b2 (o2 + i * 4) (rwsC (R.getD i rwsE.zero)) from fun u hu => rangeAt_belowS r2 hu k2)
        generalize R.getD i rwsE.zero = x at *
        have hlt2 : (i : Int) < m := by omega
        have heq := fun u => eq_rws x x u
        rw [eqRws_refl] at heq
        obtain ⟨x1, x2, x3, x4⟩ := x
        clear k1 k2 r1 r2
        go_wp2_with fail
        refine wp_region_planS (fun y => Low w3 y) (.rd 0 (.rd 1 (.rd 2 (.rd 3 (.rd 4 (.rd 5 (.rd 6 (.rd 7 (.rd 8 (.done))))))))))
          (by kernel_rfl) (by kernel_rfl) (fun _ _ d _ _ h => by cases d <;> exact h) (by kernel_rfl) hL3.out.drew ?_
        replace hL3 := Lib.hid hL3.out.drew
        change walkS _ _ _ _ _ _ wr.drew
        generalize wr.drew = wz at *
        iterate 3 (refine walkS_read (v := _) rfl (by rfl) (by intro y hy; clear hy; go_simp; try rfl) ?_; simp only [Act.put, List.setIfInBounds_toArray, List.set_cons_zero, List.set_cons_succ])
        refine walkS_read (v := .agg #[.int .i64 x1, .int .i64 x2, .int .i64 x3, .int .i64 x4]) rfl (by rfl) (by intro y hy; exact exec_load_midS (cs := [.int .i64 x1, .int .i64 x2, .int .i64 x3, .int .i64 x4]) rfl (HR1.out y hy) Try.underlying29 rfl srow_size) ?_; simp only [Act.put, List.setIfInBounds_toArray, List.set_cons_zero, List.set_cons_succ]
        iterate 3 (refine walkS_read (v := _) rfl (by rfl) (by intro y hy; clear hy; go_simp; try rfl) ?_; simp only [Act.put, List.setIfInBounds_toArray, List.set_cons_zero, List.set_cons_succ])
        refine walkS_read (v := .agg #[.int .i64 x1, .int .i64 x2, .int .i64 x3, .int .i64 x4]) rfl (by rfl) (by intro y hy; exact exec_load_midS (cs := [.int .i64 x1, .int .i64 x2, .int .i64 x3, .int .i64 x4]) rfl (HR2.out y hy) Try.underlying30 rfl rrow_size) ?_; simp only [Act.put, List.setIfInBounds_toArray, List.set_cons_zero, List.set_cons_succ]
        iterate 1 (refine walkS_read (v := .bool false) rfl (by rfl) (by intro y hy; clear hy; go_simp; try rfl) ?_; simp only [Act.put, List.setIfInBounds_toArray, List.set_cons_zero, List.set_cons_succ])
        unfold walkS
        clear heq
        go_wp2_with fail
        go_roundw
        case rel => exact ⟨i + 1, by omega, by go_num, hL3⟩
        case measure => simp [intOf]; omega
      · obtain rfl : i = m := by omega
        have hlt2 : ¬ (i : Int) < i := by omega
        go_wp2_with fail
        refine (HML.out wr).mono ?_
        rintro e w5 ⟨rfl, hl⟩
        replace hL := Lib.hid ((hL.out.trans hL3.out).trans hl)
        clear hl
        go_wp2_with fail
        go_ret
        exact ⟨rfl, hL.out⟩
end Go.Proofs.Ytjmpcmgnbamniaa
