/- The walk of harrierlaw09.TlvFinds: it answers true. Condition: at most 2^47 parts. -/
import Derived.Test.YtendfhonnodonaaTlH
import Derived.Test.YtendfhonnodonaaTlI
namespace Go.Proofs.Ytendfhonnodonaa
open Go.RowKit
set_option linter.unusedVariables false

set_option maxRecDepth 100000 in
set_option maxHeartbeats 3200000 in
theorem tlf_walk (A : Option Addr) (n c : Nat) (os : List Od) (k : Int) (w : World) (hn : n ≤ 140737488355328) (ho : Os w w.heap.size A n os) (hk : i64ok k) :
    Calls Try.prog 5 #[.slice A n c, .int .i64 k] w fun e w' => e = .returned (.bool true) ∧ Below w.heap.size w w' := by
  have HO := Lib.hid ho
  have hlen := ho.len
  clear ho
  by_cases h200 : 200 < n
  · go_enter Try.func5, Try.ntmps5
    go_wp2_with fail
    refine (tllives_any _).mono ?_
    rintro e w1 ⟨rfl, hB1⟩
    go_wp2_with fail
    go_ret
    exact ⟨rfl, hB1⟩
  · go_enter Try.func5, Try.ntmps5
    go_wp2_with fail
    refine (tlfind_any A n c os k w hn HO.out).mono ?_
    rintro e w1 ⟨A1, n1, c1, rfl, hb1, hB1⟩
    have HO1 := Lib.hid (HO.out.below' hB1 hB1.size)
    have HB1 := Lib.hid hb1
    obtain ⟨r, hr⟩ : ∃ r, r = findO (os.map Od.v) k := ⟨_, rfl⟩
    rw [← hr] at HB1 ⊢
    have HR := Lib.hid hr
    have HL := Lib.hid hB1
    clear hb1 hB1 hr
    obtain ⟨ys, t⟩ := r
    dsimp only at HB1 ⊢
    go_wp2_with fail
    go_loopw [7] (fun i wr => ∃ m : Nat, m ≤ n ∧ i = .int .i64 m ∧ wr = w1 ∧ Hid ((ys, t) = findO ((os.map Od.v).drop m) k)) (fun i _ => n - (intOf i).toNat)
    case atStart => exact ⟨0, Nat.zero_le _, rfl, rfl, HR⟩
    case round =>
      obtain ⟨m, hm, rfl, rfl, HE⟩ := hrel
      by_cases hmn : m < n
      · obtain ⟨b, p, rfl, hbl, hc⟩ := HO1.out.mem (by omega)
        obtain ⟨q1, q2⟩ := hc m hmn
        have hok := HO1.out.at_ hmn
        have hfd := find_drop (os := os) (i := m) k (by omega)
        rw [← HE.out] at hfd
        obtain ⟨o, hoo⟩ : ∃ o, o = os.getD m zeroO := ⟨_, rfl⟩
        rw [← hoo] at q1 q2 hok hfd
        clear hc hoo
        obtain ⟨kk, DA, dn, dc, d⟩ := o
        obtain ⟨hkk, hdn, hbs⟩ := hok
        dsimp only at q1 q2 hkk hdn hbs hfd
        have HBS := Lib.hid hbs
        clear hbs
        by_cases he : kk = k
        · rw [if_pos he] at hfd
          injection hfd with e1 e2
          subst e1 e2 he
          have hb1 := HB1.out
          go_wp2_with fail
          refine wp_region_plan (.rd 0 (.rd 1 (.rd 2 (.rd 3 (.rd 4 (.rd 5 (.rd 6 (.rd 7 (.rd 8 (.rd 9 (.rd 10 (.rd 11 (.rd 12 (.act 13 (.rd 14 (.rd 15 (.done))))))))))))))))) (by kernel_rfl) (by kernel_rfl) (fun _ _ d _ _ h => by cases d <;> exact h) (by kernel_rfl) ?_
          have hl0 := Below.drew HL.out
          replace hb1 := hb1.drew
          have hb2 := HBS.out.drew
          have e1 : wr.drew.cell? ⟨b, p + m * 2 + 1, none⟩ = some (.slice DA dn dc) := q2
          have hbl2 : b < wr.drew.heap.size := hbl
          replace hb1 : Bs wr.drew wr.drew.heap.size A1 n1 ys := hb1
          replace hb2 : Bs wr.drew wr.drew.heap.size DA dn ys := hb2
          clear q1 q2
          generalize wr.drew = u at *
          iterate 13 (refine walkP_read (v := _) rfl (by rfl) (by
            intro y hy
            have z1 := (hy.cell (p := ⟨b, p + m * 2 + 1, none⟩) hbl2).trans e1
            have v1 := conv_bs (c := c1) (hb1.below hy)
            have v2 := conv_bs (c := dc) (hb2.below hy)
            go_simp; try rfl) ?_; simp only [Act.put, List.setIfInBounds_toArray, List.set_cons_zero, List.set_cons_succ])
          clear hb1 hb2 e1
          refine walkP_act rfl (by rfl) (fun K hK => ?_)
          go_simp
          refine (tllives_any _).mono ?_
          rintro e u4 ⟨rfl, hl⟩
          go_simp
          refine hK _ _ hl ?_
          clear hK K
          have hL := Low.trans hl0 hl
          clear hl
          iterate 2 (refine walkP_read (v := _) rfl (by rfl) (by intro y hy; go_simp; try rfl) ?_; simp only [Act.put, List.setIfInBounds_toArray, List.set_cons_zero, List.set_cons_succ])
          unfold walkP
          go_wp2_with fail
          go_ret
          exact ⟨rfl, hL⟩
        · rw [if_neg he] at hfd
          have HF := Lib.hid hfd
          have heb : (kk == k) = false := by simpa using he
          clear hfd he
          go_wp2_with fail
          exact ⟨⟨m + 1, by omega, rfl, trivial, HF⟩, by simp [intOf]; omega⟩
      · obtain rfl : m = n := by omega
        have hfd := HE.out
        rw [List.drop_of_length_le (by simp [hlen])] at hfd
        injection hfd with e1 e2
        subst e1 e2
        have hn1 : n1 = 0 := by have := HB1.out.len; simp at this; omega
        subst hn1
        clear HE
        go_wp2_with fail
        refine (tllives_any _).mono ?_
        rintro e u4 ⟨rfl, hl⟩
        have hL := Low.trans HL.out hl
        clear hl
        go_wp2_with fail
        go_ret
        exact ⟨rfl, hL⟩
end Go.Proofs.Ytendfhonnodonaa
