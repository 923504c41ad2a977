/- harrierlaw05.WalkFinds: the walk. Condition: at most 2^47 headers. -/
import Derived.Test.YtnfdfjjdgojeeaaWkF
import Derived.Test.YtnfdfjjdgojeeaaReg2
import Derived.Deep.MidRow
namespace Go.Proofs.Ytnfdfjjdgojeeaa
open Go.RowKit
set_option linter.unusedVariables false

theorem exec_load_part {f : Operand → Value} {dd : Option Tmp} {x : Operand} {ty : TypeId} {pos : String} {gd : Option (Nat × Bool)} {w : World} {b o : Nat} {p : Pt} (hx : f x = .pointer (some ⟨b, o, none⟩))
    (h0 : w.cell? ⟨b, o, none⟩ = some (.int .i64 p.k)) (h1 : w.cell? ⟨b, o + 1, none⟩ = some (.int .i64 p.a)) (h2 : w.cell? ⟨b, o + 2, none⟩ = some (.int .i64 p.l)) :
    (execOp f ⟨dd, .load 31 x, ty, pos, #[], gd⟩).run Try.prog w = .ok (.value (.agg #[.int .i64 p.k, .int .i64 p.a, .int .i64 p.l])) w := by
  have hr : w.rangeAt b o (ptC p) := fun j v hv => by
    match j, hv with
    | 0, hv => exact h0.trans hv
    | 1, hv => exact h1.trans hv
    | 2, hv => exact h2.trans hv
  have hl := run_loadVar_mid (P := Try.prog) w b o 31 (ptC p) _ hr Try.underlying31 rfl (by rw [part_size]; rfl)
  unfold execOp
  simp only [hx, Instr.loadAt, Instr.sureAddr, Sem.run_bind, Sem.run_pure, Result.andThen_ok, hl]
  rfl

set_option maxHeartbeats 1600000 in
set_option maxRecDepth 100000 in
theorem wkf_walk (A : Option Addr) (n c : Nat) (ps : List Pt) (k : Int) (w : World) (hn : n ≤ 140737488355328) (hp : Ps w w.heap.size A n ps) (hx : i64ok k) :
    Calls Try.prog 4 #[.slice A n c, .int .i64 k] w fun e w' => e = .returned (.bool true) ∧ Below w.heap.size w w' := by
  have HL := Lib.hid hp.len
  clear hx
  by_cases h50 : 50 < n
  · have h50i : (50 : Int) < n := by omega
    go_enter Try.func4, Try.ntmps4
    go_wp2_with fail
    refine (wklives_any w).mono ?_
    rintro e w3 ⟨rfl, hl3⟩
    go_wp2_with fail
    go_ret
    exact ⟨rfl, hl3⟩
  · have h50i : ¬ (50 : Int) < n := by omega
    have h50d : decide ((50 : Int) < n) = false := by simpa using h50i
    go_enter Try.func4, Try.ntmps4
    go_wp2_with fail
    go_loopw [5, 6] (fun v5 v6 wr => wr = w ∧ ∃ (m : Nat) (v : Int), m ≤ n ∧ v6 = .int .i64 ((m : Int) - 1) ∧ v5 = .int .i64 v ∧ Hid (IsFirst ps k m v)) (fun _ i _ => (intOf i + 1).toNat)
    case atStart => exact ⟨rfl, n, -1, Nat.le_refl _, rfl, rfl, Lib.hid (IsFirst.end_ ps k n (by rw [HL.out]; exact Nat.le_refl _))⟩
    case round =>
      obtain ⟨rfl, m, v, hm, rfl, rfl, HE⟩ := hrel
      by_cases h0 : 0 < m
      · obtain ⟨m, rfl⟩ : ∃ j, m = j + 1 := ⟨m - 1, by omega⟩
        obtain ⟨b1, o1, rfl, hb1, hc1⟩ := hp.mem (by omega)
        have x1 := (hc1 m (by omega)).1
        have HP := Lib.hid hp
        clear hc1 hp
        have em : ((m + 1 : Nat) : Int) - 1 = m := by omega
        rw [em]
        by_cases hk : (ps.getD m zeroP).k = k
        · have HX := Lib.hid (IsFirst.here (k := k) (i := m) (by rw [HL.out]; omega) hk)
          rw [hk] at x1
          clear hk em HE
          go_wp2_with fail
          exact ⟨⟨trivial, m, m, by omega, by go_num, by go_num, HX⟩, by simp [intOf]⟩
        · have HX := Lib.hid (IsFirst.back HE.out hk)
          have hkb : ((ps.getD m zeroP).k == k) = false := by simpa using hk
          generalize (ps.getD m zeroP).k = y at *
          clear hk em HE
          go_wp2_with fail
          exact ⟨⟨trivial, m, v, by omega, by go_num, by go_num, HX⟩, by simp [intOf]⟩
      · obtain rfl : m = 0 := by omega
        have HV := Lib.hid HE.out
        clear HE h0 hm
        rw [show ((0 : Nat) : Int) - 1 = -1 by omega]
        by_cases hn0 : n = 0
        · subst hn0
          obtain rfl : ps = [] := List.eq_nil_of_length_eq_zero HL.out
          go_wp2_with fail
          refine (upper_none A c _).mono ?_
          rintro e w1 ⟨rfl, hl1⟩
          unfold ptV zeroP
          have hB := Low.trans hl1 (Low.alloc w1 (.cells #[.int .i64 0, .int .i64 0, .int .i64 0] 31))
          have heq := fun u => eq_part zeroP zeroP u
          rw [eqP_refl] at heq
          unfold zeroP at heq
          clear hl1 hp
          go_wp2_with fail
          refine (find_any A 0 c [] k _ (by omega) (Ps.nil _ _ _)).mono ?_
          rintro e w3 ⟨⟨v3, rfl, hv3⟩, hl3⟩
          obtain rfl := hv3.one (IsFirst.end_ [] k 0 (Nat.le_refl _))
          replace hB := Low.trans hB hl3
          clear hl3 hv3 heq
          go_wp2_with fail
          refine (wklives_any w3).mono ?_
          rintro e w4 ⟨rfl, hl4⟩
          go_wp2_with fail
          go_ret
          exact ⟨rfl, Low.trans hB hl4⟩
        · obtain ⟨m, rfl⟩ : ∃ m, n = m + 1 := ⟨n - 1, by omega⟩
          have hnb : ((m : Int) + 1 == 0) = false := by simp; omega
          have HP := Lib.hid hp
          have HU := Lib.hid (upper_some A (m + 1) c ps _ hn (by omega) hp)
          rw [Nat.add_sub_cancel] at HU
          obtain ⟨p, hpp⟩ : ∃ p, p = ps.getD m zeroP := ⟨_, rfl⟩
          rw [← hpp] at HU
          have HPP := Lib.hid hpp
          clear hp hpp
          go_wp2_with fail
          refine HU.out.mono ?_
          rintro e w1 ⟨rfl, hl1⟩
          unfold ptV
          clear HU
          have hB : Low _ (w1.alloc (.cells #[.int .i64 p.k, .int .i64 p.a, .int .i64 p.l] 31)) := Low.trans hl1 (Low.alloc w1 _)
          have hp2 := HP.out.below' hB hB.size
          have g0 : (w1.alloc (.cells #[.int .i64 p.k, .int .i64 p.a, .int .i64 p.l] 31)).cell? ⟨w1.heap.size, 0, none⟩ = some (.int .i64 p.k) := by simp
          have g1 : (w1.alloc (.cells #[.int .i64 p.k, .int .i64 p.a, .int .i64 p.l] 31)).cell? ⟨w1.heap.size, 0 + 1, none⟩ = some (.int .i64 p.a) := by simp
          have g2 : (w1.alloc (.cells #[.int .i64 p.k, .int .i64 p.a, .int .i64 p.l] 31)).cell? ⟨w1.heap.size, 0 + 2, none⟩ = some (.int .i64 p.l) := by simp
          have hglt : w1.heap.size < (w1.alloc (.cells #[.int .i64 p.k, .int .i64 p.a, .int .i64 p.l] 31)).heap.size := by simp
          clear hl1 HP
          have HG0 := Lib.hid g0
          have HG1 := Lib.hid g1
          have HG2 := Lib.hid g2
          clear g0 g1 g2
          go_wp2_with fail
          refine wp_region_plan (.rd 0 (.rd 1 (.rd 2 (.rd 3 (.rd 4 (.rd 5 (.rd 6 (.rd 7 (.rd 8 (.rd 9 (.rd 10 (.rd 11 (.rd 12 (.rd 13 (.rd 15 (.act 14 (.rd 16 (.rd 17 (.rd 18 (.act 19 (.rd 20 (.rd 21 (.done)))))))))))))))))))))))
            (by kernel_rfl) (by kernel_rfl) (fun _ _ d _ _ h => by cases d <;> exact h) (by kernel_rfl) ?_
          replace hB : Low _ (w1.alloc (.cells #[.int .i64 p.k, .int .i64 p.a, .int .i64 p.l] 31)).drew := Below.drew hB
          replace hp2 : Ps (w1.alloc (.cells #[.int .i64 p.k, .int .i64 p.a, .int .i64 p.l] 31)).drew (w1.alloc (.cells #[.int .i64 p.k, .int .i64 p.a, .int .i64 p.l] 31)).drew.heap.size A (m + 1) ps := hp2.keep fun _ _ => rfl
          replace HG0 : Hid ((w1.alloc (.cells #[.int .i64 p.k, .int .i64 p.a, .int .i64 p.l] 31)).drew.cell? ⟨w1.heap.size, 0, none⟩ = some (.int .i64 p.k)) := HG0
          replace HG1 : Hid ((w1.alloc (.cells #[.int .i64 p.k, .int .i64 p.a, .int .i64 p.l] 31)).drew.cell? ⟨w1.heap.size, 0 + 1, none⟩ = some (.int .i64 p.a)) := HG1
          replace HG2 : Hid ((w1.alloc (.cells #[.int .i64 p.k, .int .i64 p.a, .int .i64 p.l] 31)).drew.cell? ⟨w1.heap.size, 0 + 2, none⟩ = some (.int .i64 p.l)) := HG2
          replace hglt : w1.heap.size < (w1.alloc (.cells #[.int .i64 p.k, .int .i64 p.a, .int .i64 p.l] 31)).drew.heap.size := hglt
          generalize (w1.alloc (.cells #[.int .i64 p.k, .int .i64 p.a, .int .i64 p.l] 31)).drew = w2 at *
          generalize w1.heap.size = g at *
          have HP := Lib.hid hp2
          obtain ⟨b, o, rfl, hbl, hc⟩ := hp2.mem (by omega)
          obtain ⟨q0, q1, q2⟩ := hc m (by omega)
          rw [← HPP.out] at q0 q1 q2
          have HQ0 := Lib.hid q0
          have HQ1 := Lib.hid q1
          have HQ2 := Lib.hid q2
          clear q0 q1 q2 hc hp2
          have heq := fun u => eq_part p p u
          rw [eqP_refl] at heq
          have hwm : IntKind.i64.wrap (m : Int) = m := wraps_i64 _ (by omega) (by omega)
          have hwa : (0 : Int) ≤ m := by omega
          have hwb : (m : Int) < m + 1 := by omega
          have hwc : ((m : Int)).toNat = m := by omega
          iterate 15 (refine walkP_read (v := _) rfl (by rfl) (by
            intro y hy
            first
            | exact exec_load_part rfl ((Below.cell hy (p := ⟨g, 0, none⟩) hglt).trans HG0.out) ((Below.cell hy (p := ⟨g, 0 + 1, none⟩) hglt).trans HG1.out) ((Below.cell hy (p := ⟨g, 0 + 2, none⟩) hglt).trans HG2.out)
            | exact exec_load_part rfl ((Below.cell hy (p := ⟨b, o + m * 3, none⟩) hbl).trans HQ0.out) ((Below.cell hy (p := ⟨b, o + m * 3 + 1, none⟩) hbl).trans HQ1.out) ((Below.cell hy (p := ⟨b, o + m * 3 + 2, none⟩) hbl).trans HQ2.out)
            | (go_simp; try rfl)) ?_; simp only [Act.put, List.setIfInBounds_toArray, List.set_cons_zero, List.set_cons_succ])
          clear HQ0 HQ1 HQ2 HG0 HG1 HG2 heq hwa hwb hwc hwm
          refine walkP_act rfl (by rfl) (fun K hK => ?_)
          go_simp
          refine (find_any (some ⟨b, o, none⟩) (m + 1) c ps k w2 (by omega) HP.out).mono ?_
          rintro e w3 ⟨⟨v3, rfl, hv3⟩, hl3⟩
          obtain rfl := hv3.one HV.out
          go_simp
          refine hK _ _ hl3 ?_
          clear hK K hv3 HP
          replace hB := Low.trans hB hl3
          clear hl3
          iterate 3 (refine walkP_read (v := _) rfl (by rfl) (by intro y hy; go_simp; try rfl) ?_; simp only [Act.put, List.setIfInBounds_toArray, List.set_cons_zero, List.set_cons_succ])
          refine walkP_act rfl (by rfl) (fun K hK => ?_)
          go_simp
          refine (wklives_any w3).mono ?_
          rintro e w4 ⟨rfl, hl4⟩
          go_simp
          refine hK _ _ hl4 ?_
          clear hK K
          replace hB := Low.trans hB hl4
          clear hl4
          iterate 2 (refine walkP_read (v := _) rfl (by rfl) (by intro y hy; go_simp; try rfl) ?_; simp only [Act.put, List.setIfInBounds_toArray, List.set_cons_zero, List.set_cons_succ])
          unfold walkP
          go_wp2
          go_ret
          exact ⟨rfl, hB⟩
end Go.Proofs.Ytnfdfjjdgojeeaa
