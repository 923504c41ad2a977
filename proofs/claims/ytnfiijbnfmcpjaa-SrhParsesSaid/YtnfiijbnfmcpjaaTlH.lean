/- What the document's own Same (of parts), and tlv.Find, answer. Condition: at most 2^47 parts. -/
import Derived.Test.YtnfiijbnfmcpjaaTpM
import Derived.Test.YtnfiijbnfmcpjaaTpN
import Derived.Test.YtnfiijbnfmcpjaaTlC
import Derived.Test.YtnfiijbnfmcpjaaReg2
import Derived.WalkMore
import Derived.Lib.Bytes
namespace Go.Proofs.Ytnfiijbnfmcpjaa
open Go.RowKit
set_option linter.unusedVariables false

set_option maxRecDepth 100000 in
set_option maxHeartbeats 3200000 in
theorem sameT_any (A B : Option Addr) (n c m c' : Nat) (os ps : List Od) (w : World) (hn : n ≤ 140737488355328) (hm : m ≤ 140737488355328) (ho : Os w w.heap.size A n os) (hp : Os w w.heap.size B m ps) :
    Calls Try.prog 30 #[.slice A n c, .slice B m c'] w fun e w' => e = .returned (.bool (decide (os.map Od.v = ps.map Od.v))) ∧ Below w.heap.size w w' := by
  have hlo := ho.len
  have hlp := hp.len
  by_cases hnm : n = m
  · subst hnm
    go_enter Try.func30, Try.ntmps30
    go_wp2_with fail
    go_loopw [5] (fun i wr => ∃ m : Nat, m ≤ n ∧ i = .int .i64 m ∧ Below w.heap.size w wr ∧ Hid (∀ j, j < m → (os.getD j zeroO).v = (ps.getD j zeroO).v)) (fun i _ => n - (intOf i).toNat)
    case atStart => exact ⟨0, Nat.zero_le _, rfl, Below.refl _ _, Lib.hid fun j h => by omega⟩
    case round =>
      obtain ⟨m, hm1, rfl, hB, HE⟩ := hrel
      by_cases hmn : m < n
      · obtain ⟨b1, p1, rfl, hbl1, hc1⟩ := ho.mem (by omega)
        obtain ⟨b2, p2, rfl, hbl2, hc2⟩ := hp.mem (by omega)
        obtain ⟨q1, q2⟩ := hc1 m hmn
        obtain ⟨q3, q4⟩ := hc2 m hmn
        have hok1 := ho.at_ hmn
        have hok2 := hp.at_ hmn
        obtain ⟨o1, ho1⟩ : ∃ o, o = os.getD m zeroO := ⟨_, rfl⟩
        obtain ⟨o2, ho2⟩ : ∃ o, o = ps.getD m zeroO := ⟨_, rfl⟩
        rw [← ho1] at q1 q2 hok1
        rw [← ho2] at q3 q4 hok2
        have HO1 := Lib.hid ho1
        have HO2 := Lib.hid ho2
        have d1 := (hB.cell (p := ⟨b1, p1 + m * 2, none⟩) hbl1).trans q1
        have d2 := (hB.cell (p := ⟨b1, p1 + m * 2 + 1, none⟩) hbl1).trans q2
        have d3 := (hB.cell (p := ⟨b2, p2 + m * 2, none⟩) hbl2).trans q3
        have d4 := (hB.cell (p := ⟨b2, p2 + m * 2 + 1, none⟩) hbl2).trans q4
        clear q1 q2 q3 q4 hc1 hc2 ho1 ho2
        obtain ⟨k1, A1, n1, e1, x1⟩ := o1
        obtain ⟨k2, A2, n2, e2, x2⟩ := o2
        obtain ⟨hk1, hn1, hb1⟩ := hok1
        obtain ⟨hk2, hn2, hb2⟩ := hok2
        dsimp only at d1 d2 d3 d4 hk1 hn1 hb1 hk2 hn2 hb2
        have hsz := hB.size
        have hb1r := hb1.below hB
        have hb2r := hb2.below hB
        have HOO := Lib.hid (And.intro ho hp)
        clear ho hp hb1 hb2
        by_cases hk : k1 = k2
        · subst hk
          have hse := str_beq hb1r.all hb2r.all
          have d0 : (k1 != k1) = false := by simp
          go_wp2_with fail
          refine wp_region_plan (.rd 0 (.rd 1 (.rd 2 (.rd 3 (.rd 4 (.rd 5 (.rd 6 (.rd 7 (.rd 8 (.rd 9 (.rd 10 (.rd 11 (.rd 12 (.rd 13 (.rd 14 (.rd 15 (.rd 16 (.rd 17 (.rd 18 (.rd 19 (.rd 20 (.rd 21 (.rd 22 (.rd 23 (.rd 24 (.rd 25 (.done))))))))))))))))))))))))))) (by kernel_rfl) (by kernel_rfl) (fun _ _ d _ _ h => by cases d <;> exact h) (by kernel_rfl) ?_
          replace hB := Below.drew hB
          replace hb1r := hb1r.drew
          replace hb2r := hb2r.drew
          replace d1 : wr.drew.cell? _ = _ := d1
          replace d2 : wr.drew.cell? _ = _ := d2
          replace d3 : wr.drew.cell? _ = _ := d3
          replace d4 : wr.drew.cell? _ = _ := d4
          replace hsz : w.heap.size ≤ wr.drew.heap.size := hsz
          generalize wr.drew = w2 at *
          iterate 25 (refine walkP_read (v := _) rfl (by rfl) (by
            intro y hy
            have z1 := (hy.cell (p := ⟨b1, p1 + m * 2, none⟩) (Nat.lt_of_lt_of_le hbl1 hsz)).trans d1
            have z2 := (hy.cell (p := ⟨b1, p1 + m * 2 + 1, none⟩) (Nat.lt_of_lt_of_le hbl1 hsz)).trans d2
            have z3 := (hy.cell (p := ⟨b2, p2 + m * 2, none⟩) (Nat.lt_of_lt_of_le hbl2 hsz)).trans d3
            have z4 := (hy.cell (p := ⟨b2, p2 + m * 2 + 1, none⟩) (Nat.lt_of_lt_of_le hbl2 hsz)).trans d4
            have v1 := conv_bs (c := e1) (hb1r.below (Below.mono hy hsz))
            have v2 := conv_bs (c := e2) (hb2r.below (Below.mono hy hsz))
            go_simp; try rfl) ?_; simp only [Act.put, List.setIfInBounds_toArray, List.set_cons_zero, List.set_cons_succ])
          clear hse
          by_cases hx : x1 = x2
          · have HE2 := Lib.hid (show ∀ j, j < m + 1 → (os.getD j zeroO).v = (ps.getD j zeroO).v from fun j hj => by
              rcases Nat.lt_or_ge j m with h3 | h3
              · exact HE.out j h3
              · obtain rfl : j = m := by omega
                rw [← HO1.out, ← HO2.out, hx]
                rfl)
            refine walkP_read (v := _) rfl (by rfl) (by intro y hy; go_simp; try rfl) ?_
            simp only [walkP, Act.put, List.setIfInBounds_toArray, List.set_cons_zero, List.set_cons_succ]
            clear d1 d2 d3 d4 hb1r hb2r
            go_wp2_with fail
            exact ⟨⟨m + 1, by omega, rfl, hB, HE2⟩, by simp [intOf]; omega⟩
          · have HN := Lib.hid (same_not (os := os) (ps := ps) (j := m) (by rw [← HO1.out, ← HO2.out]; intro e; exact hx (congrArg Prod.snd e)))
            refine walkP_read (v := _) rfl (by rfl) (by intro y hy; go_simp; try rfl) ?_
            simp only [walkP, Act.put, List.setIfInBounds_toArray, List.set_cons_zero, List.set_cons_succ]
            clear d1 d2 d3 d4 hb1r hb2r
            go_wp2_with fail
            go_ret
            exact ⟨by rw [decide_eq_false HN.out]; rfl, hB⟩
        · have hkb : (k1 != k2) = true := by simpa using hk
          have HN := Lib.hid (same_not (os := os) (ps := ps) (j := m) (by rw [← HO1.out, ← HO2.out]; intro e; exact hk (congrArg Prod.fst e)))
          clear hk
          go_wp2_with fail
          refine wp_region_plan (.rd 0 (.rd 1 (.rd 2 (.rd 3 (.rd 4 (.rd 5 (.rd 6 (.rd 7 (.rd 8 (.rd 9 (.rd 10 (.rd 11 (.rd 12 (.rd 13 (.rd 14 (.rd 15 (.rd 16 (.rd 17 (.rd 18 (.rd 19 (.rd 20 (.rd 21 (.rd 22 (.rd 23 (.rd 24 (.rd 25 (.done))))))))))))))))))))))))))) (by kernel_rfl) (by kernel_rfl) (fun _ _ d _ _ h => by cases d <;> exact h) (by kernel_rfl) ?_
          replace hB := Below.drew hB
          replace hb1r := hb1r.drew
          replace hb2r := hb2r.drew
          replace d1 : wr.drew.cell? _ = _ := d1
          replace d2 : wr.drew.cell? _ = _ := d2
          replace d3 : wr.drew.cell? _ = _ := d3
          replace d4 : wr.drew.cell? _ = _ := d4
          replace hsz : w.heap.size ≤ wr.drew.heap.size := hsz
          generalize wr.drew = w2 at *
          iterate 12 (refine walkP_read (v := _) rfl (by rfl) (by
            intro y hy
            have z1 := (hy.cell (p := ⟨b1, p1 + m * 2, none⟩) (Nat.lt_of_lt_of_le hbl1 hsz)).trans d1
            have z3 := (hy.cell (p := ⟨b2, p2 + m * 2, none⟩) (Nat.lt_of_lt_of_le hbl2 hsz)).trans d3
            go_simp; try rfl) ?_; simp only [Act.put, List.setIfInBounds_toArray, List.set_cons_zero, List.set_cons_succ])
          iterate 13 (refine walkP_skip rfl (by rfl) ?_; simp only [Act.put, List.setIfInBounds_toArray, List.set_cons_zero, List.set_cons_succ])
          refine walkP_read (v := _) rfl (by rfl) (by intro y hy; go_simp; try rfl) ?_
          simp only [walkP, Act.put, List.setIfInBounds_toArray, List.set_cons_zero, List.set_cons_succ]
          clear d1 d2 d3 d4 hb1r hb2r
          go_wp2_with fail
          go_ret
          exact ⟨by rw [decide_eq_false HN.out]; rfl, hB⟩
      · obtain rfl : m = n := by omega
        have HA := Lib.hid (same_all (os := os) (ps := ps) (by omega) (fun j hj => HE.out j (by omega)))
        clear HE ho hp
        go_wp2_with fail
        go_ret
        exact ⟨by rw [decide_eq_true HA.out]; rfl, hB⟩
  · have HN := Lib.hid (show ¬ os.map Od.v = ps.map Od.v from fun e => hnm (by have := congrArg List.length e; simpa [hlo, hlp] using this))
    have hb : ((n : Int) != (m : Int)) = true := by simp; omega
    clear ho hp
    go_enter Try.func30, Try.ntmps30
    go_wp2_with fail
    go_ret
    exact ⟨by rw [decide_eq_false HN.out]; rfl, Below.refl _ _⟩
end Go.Proofs.Ytnfiijbnfmcpjaa
