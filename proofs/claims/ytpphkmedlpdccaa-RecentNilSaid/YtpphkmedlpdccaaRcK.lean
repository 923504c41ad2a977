/- Stage 22: the program's own list: New; RcObj and RcNone are met. No condition but what these say. -/
import Derived.Test.YtpphkmedlpdccaaRcI
import Derived.Test.YtpphkmedlpdccaaRcE
set_option maxRecDepth 100000
namespace Go.Proofs.Ytpphkmedlpdccaa
open Go.RowKit
set_option linter.unusedVariables false
attribute [local go_sem] Oper.semAt_some

theorem made_noughtsR (M : Nat) : madeCells #[.int .i64 0] M = (cellsN (List.replicate M 0)).toArray := by
  apply Array.ext
  · simp [madeCells, cellsN]
  · intro i h1 h2
    simp [madeCells, cellsN, Nat.mod_one]
set_option maxHeartbeats 3200000 in
set_option maxRecDepth 100000 in
theorem rcnew_any (n : Nat) (w : World) (h1 : 1 ≤ n) (h2 : n ≤ 256) : Calls Try.prog 5 #[.int .i64 n] w fun e w' => ∃ g a b, e = .returned (.pointer (some ⟨g, 0, none⟩)) ∧ HasR w' g a b n [] ∧ (∀ k, ownR g a b k → w.heap.size ≤ k) ∧ Low w w' := by
  obtain ⟨i0, hi, hz0, hz1, hz2⟩ := info_int_partsP
  have hmk : ∀ u : World, (Instr.makeSlice 26 (.int .i64 ((n : Int) + 1)) (.int .i64 ((n : Int) + 1))).run Try.prog u = .ok (.slice (some ⟨u.heap.size, 0, none⟩) (n + 1) (n + 1)) (u.alloc (.cells (cellsN (List.replicate (n + 1) 0)).toArray 3)) := fun u => by
    have h := run_make (P := Try.prog) u 26 3 i0 (.int .i64 0) Try.underlying26 hi hz0 .i64 .i64 ((n : Int) + 1) ((n : Int) + 1) (by omega) (Int.le_refl _) (by rw [hz2]; omega) (by omega)
    have e : ((n : Int) + 1).toNat = n + 1 := by omega
    rw [e, hz1] at h
    rw [← made_noughtsR]
    simpa [Value.cells] using h
  have HMK := Lib.hid hmk
  clear hi hz0 hz1 hz2 hmk
  have g1 : ¬ (n : Int) < 1 := by omega
  have g2 : ¬ (256 : Int) < n := by omega
  have HZ0 := Lib.hid (show ∀ k : Nat, (List.replicate (n + 1) (0 : Int)).length = n + 1 from fun _ => by simp)
  generalize List.replicate (n + 1) (0 : Int) = zs at *
  have HZZ : ∃ z, Hid (z = w.heap.size) := ⟨_, Lib.hid rfl⟩
  obtain ⟨z, HZZ⟩ := HZZ
  go_enter Try.func5, Try.ntmps5
  go_wp2_with fail
  refine wp_region_planN (fun y => True) (.rd 0 (.rd 1 (.rd 3 (.rd 4 (.fork 2 (.act 5 (.rd 6 (.rd 7 (.act 8 (.rd 9 (.done)))))) 5 (.act 2 (.rd 6 (.rd 7 (.act 8 (.rd 9 (.done)))))))))))
    (by kernel_rfl) (by kernel_rfl) (by kernel_rfl) trivial ?_
  have HL := Lib.hid (show Low w w.drew from Below.drew (Below.refl _ w))
  have hsz : w.drew.heap.size = w.heap.size := rfl
  generalize w.drew = w1 at *
  iterate 4 (refine walkS_read (v := _) rfl (by rfl) (by
                    intro y _
                    first
                    | (go_simp; try rfl)) ?_; simp only [Act.put, List.setIfInBounds_toArray, List.set_cons_zero, List.set_cons_succ])
  have hw : IntKind.i64.wrap ((n : Int) + 1) = (n : Int) + 1 := by rw [IntKind.wrap_i64]; omega
  rw [hw]
  clear hw
  refine walkS_forkD ?fa ?fb
  all_goals
    refine walkS_act rfl (by rfl) (fun K hK => ?_)
    have hm1 := HMK.out w1
    go_simp
    have ha1 : BlkN (w1.alloc (.cells (cellsN zs).toArray 3)) 3 w1.heap.size zs := BlkN.new _ _ _
    have hl1 := Low.alloc w1 (.cells (cellsN zs).toArray 3)
    have hs1 : (w1.alloc (.cells (cellsN zs).toArray 3)).heap.size = w1.heap.size + 1 := by simp
    refine hK _ _ trivial ?_
    clear hK K hm1
    generalize w1.alloc (.cells (cellsN zs).toArray 3) = w2 at *
    refine walkS_act rfl (by rfl) (fun K hK => ?_)
    have hm2 := HMK.out w2
    go_simp
    have ha2 : BlkN (w2.alloc (.cells (cellsN zs).toArray 3)) 3 w2.heap.size zs := BlkN.new _ _ _
    have hl2 := Low.alloc w2 (.cells (cellsN zs).toArray 3)
    have hs2 : (w2.alloc (.cells (cellsN zs).toArray 3)).heap.size = w2.heap.size + 1 := by simp
    refine hK _ _ trivial ?_
    clear hK K hm2
    generalize w2.alloc (.cells (cellsN zs).toArray 3) = w3 at *
    have HA1 := Lib.hid (ha1.below hl2 ha1.lt)
    have HA2 := Lib.hid ha2
    have HL3 := Lib.hid ((HL.out.trans hl1).trans hl2)
    have hs1' : w2.heap.size = w.heap.size + 1 := by rw [hs1, hsz]
    rw [hs1'] at hs2 HA2
    rw [hsz] at HA1
    clear ha1 ha2 hl1 hl2 HL HMK
    iterate 2 (refine walkS_read (v := _) rfl (by rfl) (by
                    intro y _
                    first
                    | (go_simp; try rfl)) ?_; simp only [Act.put, List.setIfInBounds_toArray, List.set_cons_zero, List.set_cons_succ])
    refine walkS_act rfl (by rfl) (fun K hK => ?_)
    go_simp
  case' fa =>
    have hb4 := BlkV.new w3 42 (headR (w.heap.size) (w.heap.size + 1) n)
    have hl4 := Low.alloc w3 (.cells #[.slice (some ⟨w.heap.size, 0, none⟩) (n + 1) (n + 1), .slice (some ⟨w.heap.size + 1, 0, none⟩) (n + 1) (n + 1)] 42)
    rw [hs2] at hb4
    refine hK _ _ trivial ?_
    clear hK K
    have T : Hid (RcAt _ (w.heap.size + 1 + 1) (w.heap.size) (w.heap.size + 1) n zs zs) := Lib.hid ⟨hb4, HA1.out.below hl4 HA1.out.lt, HA2.out.below hl4 HA2.out.lt, HZ0.out 0, HZ0.out 0, by omega, h1, h2⟩
    have HOW : Hid (∀ k, ownR (w.heap.size + 1 + 1) (w.heap.size) (w.heap.size + 1) k → z ≤ k) := Lib.hid fun k hk => by have := HZZ.out; rcases hk with rfl | rfl | rfl <;> omega
    have HL4 := Lib.hid (HL3.out.trans hl4)
    clear hb4 hl4 HA1 HA2 HL3
    generalize w3.alloc (.cells #[.slice (some ⟨w.heap.size, 0, none⟩) (n + 1) (n + 1), .slice (some ⟨w.heap.size + 1, 0, none⟩) (n + 1) (n + 1)] 42) = w4 at *
    obtain ⟨a, ha⟩ : ∃ a, a = w.heap.size := ⟨_, rfl⟩
    obtain ⟨b, hb⟩ : ∃ b, b = w.heap.size + 1 := ⟨_, rfl⟩
    obtain ⟨g, hg⟩ : ∃ g, g = w.heap.size + 1 + 1 := ⟨_, rfl⟩
    rw [← hg, ← hb, ← ha] at T HOW
    rw [← hg, ← hb, ← ha]
    clear ha hb hg
  case' fb =>
    have hb4 := BlkV.new w3 42 (headR (w.heap.size + 1) (w.heap.size) n)
    have hl4 := Low.alloc w3 (.cells #[.slice (some ⟨w.heap.size + 1, 0, none⟩) (n + 1) (n + 1), .slice (some ⟨w.heap.size, 0, none⟩) (n + 1) (n + 1)] 42)
    rw [hs2] at hb4
    refine hK _ _ trivial ?_
    clear hK K
    have T : Hid (RcAt _ (w.heap.size + 1 + 1) (w.heap.size + 1) (w.heap.size) n zs zs) := Lib.hid ⟨hb4, HA2.out.below hl4 HA2.out.lt, HA1.out.below hl4 HA1.out.lt, HZ0.out 0, HZ0.out 0, by omega, h1, h2⟩
    have HOW : Hid (∀ k, ownR (w.heap.size + 1 + 1) (w.heap.size + 1) (w.heap.size) k → z ≤ k) := Lib.hid fun k hk => by have := HZZ.out; rcases hk with rfl | rfl | rfl <;> omega
    have HL4 := Lib.hid (HL3.out.trans hl4)
    clear hb4 hl4 HA1 HA2 HL3
    generalize w3.alloc (.cells #[.slice (some ⟨w.heap.size + 1, 0, none⟩) (n + 1) (n + 1), .slice (some ⟨w.heap.size, 0, none⟩) (n + 1) (n + 1)] 42) = w4 at *
    obtain ⟨a, ha⟩ : ∃ a, a = w.heap.size + 1 := ⟨_, rfl⟩
    obtain ⟨b, hb⟩ : ∃ b, b = w.heap.size := ⟨_, rfl⟩
    obtain ⟨g, hg⟩ : ∃ g, g = w.heap.size + 1 + 1 := ⟨_, rfl⟩
    rw [← hg, ← ha, ← hb] at T HOW
    rw [← hg, ← ha, ← hb]
    clear ha hb hg
  all_goals
    have c0 := T.out.c0
    iterate 1 (refine walkS_read (v := _) rfl (by rfl) (by
                    intro y _
                    first
                    | (go_simp; try rfl)) ?_; simp only [Act.put, List.setIfInBounds_toArray, List.set_cons_zero, List.set_cons_succ])
    unfold walkS orThrow
    dsimp only
    go_wp2_with fail
    clear c0
    go_loopw [4, 26] (fun v4 v26 wr => ∃ (i : Nat) (v : List Int), i ≤ n + 1 ∧ v26 = .int .i64 i ∧ Hid (RcAt wr g a b n v v) ∧ Hid (∀ k : Nat, k < i → v.getD k 0 = k) ∧ Hid (Out (ownR g a b) w4 wr)) (fun _ v _ => n + 1 - (intOf v).toNat)
    case atStart => exact ⟨0, zs, Nat.zero_le _, rfl, T, Lib.hid (fun k hk => absurd hk (Nat.not_lt_zero k)), Lib.hid (Out.refl _ _)⟩
    case round =>
      clear T
      obtain ⟨i, v, hi, rfl, T, HV, HO⟩ := hrel
      by_cases hlt : i < n + 1
      · have hin : i ≤ n := by omega
        have hlt2 : (i : Int) < (n : Int) + 1 := by omega
        have HT2 := Lib.hid (rctie_any T.out hin hin)
        have HV2 := Lib.hid (show ∀ k : Nat, k < i + 1 → (v.set i (i : Int)).getD k 0 = k from fun k hk => by
          rw [getD_setR v i k _ (by rw [T.out.lenA]; omega)]
          by_cases hc : k = i
          · rw [if_pos hc, hc]
          · rw [if_neg hc, HV.out k (by omega)])
        clear T HV
        go_wp2_with fail
        refine HT2.out.mono ?_
        rintro e w5 ⟨rfl, h5, ho5⟩
        have T5 := Lib.hid h5
        have HO5 := Lib.hid (HO.out.trans ho5 (Grow.refl _ _))
        clear h5 ho5 HT2 HO
        go_wp2_with fail
        go_roundw
        case rel => exact ⟨i + 1, _, by omega, by go_num, T5, HV2, HO5⟩
        case measure => simp [intOf]; omega
      · obtain rfl : i = n + 1 := by omega
        have hlt2 : ¬ ((n : Int) + 1) < (n : Int) + 1 := by omega
        have HR := Lib.hid (RingR.new n v T.out.lenA fun k hk => HV.out k (by omega))
        rw [HZZ.out] at HOW
        have HLW := Lib.hid (Below.trans HL4.out (HO.out.below HOW.out HL4.out.size))
        clear HV HO
        go_wp2_with fail
        go_ret
        exact ⟨g, rfl, a, b, ⟨_, _, T.out, HR.out⟩, HOW.out, HLW.out⟩
theorem rcnewNot_any (n : Int) (w : World) (hn : i64ok n) (h : ¬ (1 ≤ n ∧ n ≤ 256)) : Calls Try.prog 5 #[.int .i64 n] w fun e w' => e = .returned (.pointer none) ∧ Low w w' := by
  go_enter Try.func5, Try.ntmps5
  by_cases h1 : n < 1
  · go_wp2_with fail
    go_ret
    exact ⟨rfl, Low.refl _⟩
  · have h2 : (256 : Int) < n := by omega
    go_wp2_with fail
    go_ret
    exact ⟨rfl, Low.refl _⟩
/-- one that is there stands at p, keeps its three blocks in F -/
def RcR (w : World) (p : Value) (F : Nat → Prop) (n : Nat) (s : List Int) : Prop := ∃ g a b, p = .pointer (some ⟨g, 0, none⟩) ∧ F = ownR g a b ∧ HasR w g a b n s
def rcobj : RcObj where
  R := RcR
  under := fun ⟨g, a, b, _, e, va, vb, h, _⟩ k hk => by
    rw [e] at hk
    rcases hk with rfl | rfl | rfl
    · exact h.head.lt
    · exact h.rowA.lt
    · exact h.rowB.lt
  keep := fun ⟨g, a, b, e1, e2, va, vb, h, hr⟩ _ hk => ⟨g, a, b, e1, e2, va, vb, h.keep fun k hkk => hk k (by rw [e2]; exact hkk), hr⟩
  right := fun ⟨g, a, b, _, _, va, vb, h, hr⟩ => ⟨⟨h.n1, h.n2⟩, hr.right⟩
  new := fun n w h1 h2 => (rcnew_any n w h1 h2).mono fun e w' ⟨g, a, b, h3, h4, h5, h6⟩ => ⟨g, ownR g a b, h3, ⟨g, a, b, rfl, rfl, h4⟩, h5, h6⟩
  newNot := fun n w hn h => rcnewNot_any n w hn h
  touch := fun {w p F n l} x ⟨g, a, b, e1, e2, va, vb, h, hr⟩ hx => by
    subst e1 e2
    refine (rctouch_any h hr x).mono ?_
    rintro e w' ⟨rfl, h1, h2⟩
    exact ⟨rfl, _, ⟨g, a, b, rfl, rfl, h1⟩, Grow.refl _ _, h2⟩
  drop := fun {w p F n l} x ⟨g, a, b, e1, e2, va, vb, h, hr⟩ hx => by
    subst e1 e2
    refine (rcdrop_any h hr x).mono ?_
    rintro e w' ⟨rfl, h1, h2⟩
    exact ⟨rfl, _, ⟨g, a, b, rfl, rfl, h1⟩, Grow.refl _ _, h2⟩
  has := fun {w p F n l} x ⟨g, a, b, e1, e2, va, vb, h, hr⟩ hx => by
    subst e1 e2
    refine (rchas_any h hr x).mono ?_
    rintro e w' ⟨rfl, rfl⟩
    exact ⟨rfl, Low.refl _⟩
  oldest := fun {w p F n l} ⟨g, a, b, e1, e2, va, vb, h, hr⟩ => by
    subst e1 e2
    exact rcoldest_any h hr
  len := fun {w p F n l} ⟨g, a, b, e1, e2, va, vb, h, hr⟩ => by
    subst e1 e2
    exact rclen_any h hr
  all := fun {w p F n l} ⟨g, a, b, e1, e2, va, vb, h, hr⟩ => by
    subst e1 e2
    exact rcall_any h hr

theorem rclist_zero : ((Try.prog.info? 42).bind (·.zero)).map (fun z => z.cells) = some #[.slice none 0 0, .slice none 0 0] := by kernel_rfl
theorem rcmadeZ_any {w : World} {v : Value} (h : NoOb 42 w v) : Calls Try.prog 20 #[v] w fun e w' => e = .returned (.bool false) ∧ w' = w := by
  rcases h with rfl | ⟨g, cs, rfl, hz, hb⟩
  · go_enter Try.func20, Try.ntmps20
    go_wp2_with fail
    go_ret
    exact ⟨rfl, rfl⟩
  · unfold IsZero at hz
    rw [rclist_zero] at hz
    injection hz with hz
    subst hz
    have hk : BlkV w 42 g [.slice none 0 0, .slice none 0 0] := hb
    have c0 : w.cell? ⟨g, 0, none⟩ = some (.slice none 0 0) := hk.cell 0
    clear hb hk
    go_enter Try.func20, Try.ntmps20
    go_wp2_with fail
    go_ret
    exact ⟨rfl, rfl⟩
theorem rcmayZ_any {w : World} {v : Value} (h : NoOb 42 w v) (x : Int) : Calls Try.prog 17 #[v, .int .i64 x] w fun e w' => e = .returned (.bool false) ∧ w' = w := by
  have HM := Lib.hid (rcmadeZ_any h)
  clear h
  go_enter Try.func17, Try.ntmps17
  go_wp2_with fail
  refine HM.out.mono ?_
  rintro e w2 ⟨rfl, rfl⟩
  go_wp2_with fail
  go_ret
  exact ⟨rfl, rfl⟩
theorem rchasZ_any {w : World} {v : Value} (h : NoOb 42 w v) (x : Int) : Calls Try.prog 15 #[v, .int .i64 x] w fun e w' => e = .returned (.bool false) ∧ w' = w := by
  have HM := Lib.hid (rcmayZ_any h x)
  clear h
  go_enter Try.func15, Try.ntmps15
  go_wp2_with fail
  refine HM.out.mono ?_
  rintro e w2 ⟨rfl, rfl⟩
  go_wp2_with fail
  go_ret
  exact ⟨rfl, rfl⟩
theorem rcallZ_any {w : World} {v : Value} (h : NoOb 42 w v) : Calls Try.prog 13 #[v] w fun e w' => e = .returned (.slice none 0 0) ∧ w' = w := by
  have HM := Lib.hid (rcmadeZ_any h)
  clear h
  go_enter Try.func13, Try.ntmps13
  go_wp2_with fail
  refine HM.out.mono ?_
  rintro e w2 ⟨rfl, rfl⟩
  go_wp2_with fail
  go_ret
  exact ⟨rfl, rfl⟩
theorem rcnone : RcNone where
  touch := fun {w v} x h hx => by
    have HM := Lib.hid (rcmayZ_any h x)
    clear h
    go_enter Try.func7, Try.ntmps7
    go_wp2_with fail
    refine HM.out.mono ?_
    rintro e w2 ⟨rfl, rfl⟩
    go_wp2_with fail
    go_ret
    exact ⟨rfl, Low.refl _⟩
  drop := fun {w v} x h hx => by
    have HM := Lib.hid (rchasZ_any h x)
    clear h
    go_enter Try.func9, Try.ntmps9
    go_wp2_with fail
    refine HM.out.mono ?_
    rintro e w2 ⟨rfl, rfl⟩
    go_wp2_with fail
    go_ret
    exact ⟨rfl, Low.refl _⟩
  has := fun {w v} x h hx => by
    refine (rchasZ_any h x).mono ?_
    rintro e w' ⟨rfl, rfl⟩
    exact ⟨rfl, Low.refl _⟩
  oldest := fun {w v} h => by
    have HM := Lib.hid fun k => rcmadeZ_any (w := w.drewN k) (h.low (below_drewN (Low.refl w) k))
    clear h
    go_enter Try.func11, Try.ntmps11
    go_wp2_with fail
    go_quiet (exact (HM.out _).mono fun e w2 h2 => ⟨h2.1, _, h2.2⟩)
    go_wp2_with fail
    go_ret2
    exact ⟨0, rfl, below_drewN (Low.refl w) _⟩
  len := fun {w v} h => by
    have HM := Lib.hid (rcallZ_any h)
    clear h
    go_enter Try.func14, Try.ntmps14
    go_wp2_with fail
    refine HM.out.mono ?_
    rintro e w2 ⟨rfl, rfl⟩
    go_wp2_with fail
    go_ret
    exact ⟨rfl, Low.refl _⟩
  all := fun {w v} h => by
    refine (rcallZ_any h).mono ?_
    rintro e w' ⟨rfl, rfl⟩
    exact ⟨none, 0, rfl, Low.refl _⟩
end Go.Proofs.Ytpphkmedlpdccaa
