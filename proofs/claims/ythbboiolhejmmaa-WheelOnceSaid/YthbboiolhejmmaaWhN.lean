/- Stage 23: New; WhObj and WhNone are met. No condition but what these say. -/
import Derived.Test.YthbboiolhejmmaaWhM
import Derived.Test.YthbboiolhejmmaaWhG
set_option maxRecDepth 100000
namespace Go.Proofs.Ythbboiolhejmmaa
open Go.RowKit Go.Maps
set_option linter.unusedVariables false
attribute [local go_sem] Oper.semAt_some

theorem replW (i : Nat) : (List.replicate 64 noW).getD i noW = noW := by
  unfold List.getD
  rw [List.getElem?_replicate]
  split <;> rfl
theorem replX (i : Nat) : (List.replicate 64 ([] : List Int)).getD i [] = [] := by
  unfold List.getD
  rw [List.getElem?_replicate]
  split <;> rfl
theorem whfresh {w : World} {g b : Nat} (hh : BlkV w 48 g (headW 0 b (List.replicate 64 noW))) (hd : DueW w b []) : WhAt w g b 0 (List.replicate 64 noW) (List.replicate 64 []) [] :=
  ⟨hh, hd, by simp, (fun i hi => by rw [replW, replX]; exact OwnN.noneP _ _ _), (fun i j k hi hj e1 e2 => by rw [replW] at e1; cases e1), TellW.nil, KeepW.nil⟩
theorem ownW_fresh {g b k : Nat} (h : ownW g b (List.replicate 64 noW) k) : k = g ∨ k = b := by
  rcases h with h | h | ⟨i, hi, e⟩
  · exact .inl h
  · exact .inr h
  · rw [replW] at e
    cases e
theorem zeroWh_set (b : Nat) : zeroWh.set 1 (.map (some b)) = headW 0 b (List.replicate 64 noW) := by rfl
set_option maxHeartbeats 3200000 in
set_option maxRecDepth 100000 in
theorem whnew_any (w : World) : Calls Try.prog 6 #[] w fun e w' => ∃ g b, e = .returned (.pointer (some ⟨g, 0, none⟩)) ∧ WhAt w' g b 0 (List.replicate 64 noW) (List.replicate 64 []) [] ∧ w.heap.size ≤ g ∧ w.heap.size ≤ b ∧ Low w w' := by
  have hmm := @run_makeMap Try.prog
  have hz := wh_zeroV (w.alloc (.map #[] 0))
  go_enter Try.func6, Try.ntmps6
  go_wp2_with fail
  rw [zeroWh_set]
  have hm0 := World.ownsMap_made w Try.prog 3 (plainElem (H := Unit) Try.prog 3)
  have hd : DueW (w.alloc (.map #[] 0)) w.heap.size [] := ⟨_, hm0, MapW.nil⟩
  have hl1 := Low.alloc w (.map #[] 0)
  have hs1 : (w.alloc (.map #[] 0)).heap.size = w.heap.size + 1 := by simp
  generalize w.alloc (.map #[] 0) = w1 at *
  have hl2 := Low.alloc w1 (.cells (headW 0 w.heap.size (List.replicate 64 noW)).toArray 48)
  have hh := BlkV.new w1 48 (headW 0 w.heap.size (List.replicate 64 noW))
  rw [hs1] at hh
  have hd2 := hd.heap (hl2.block w.heap.size hd.lt)
  have hl3 := hl1.trans hl2
  generalize w1.alloc (.cells (headW 0 w.heap.size (List.replicate 64 noW)).toArray 48) = w2 at *
  go_ret
  exact ⟨_, _, rfl, whfresh hh hd2, by omega, Nat.le_refl _, hl3⟩
/-- one that is there stands at p, keeps its blocks in F -/
def WhR (w : World) (p : Value) (F : Nat → Prop) (now : Int) (l : List (Int × Int)) : Prop := ∃ g b sl xs, p = .pointer (some ⟨g, 0, none⟩) ∧ F = ownW g b sl ∧ WhAt w g b now sl xs l ∧ 0 ≤ now ∧ RightW now l
def whobj : WhObj where
  R := WhR
  under := fun ⟨g, b, sl, xs, _, e, h, _, _⟩ k hk => by
    rw [e] at hk
    exact h.under k hk
  keep := fun ⟨g, b, sl, xs, e1, e2, h, h0, hr⟩ _ hk => ⟨g, b, sl, xs, e1, e2, h.keep fun k hkk => hk k (by rw [e2]; exact hkk), h0, hr⟩
  right := fun ⟨g, b, sl, xs, _, _, h, h0, hr⟩ => ⟨h0, hr⟩
  new := fun w => (whnew_any w).mono fun e w' ⟨g, b, h1, h2, h3, h4, h5⟩ => ⟨g, ownW g b (List.replicate 64 noW), h1, ⟨g, b, _, _, rfl, rfl, h2, Int.le_refl _, RightW.nil 0⟩, fun k hk => by
    rcases ownW_fresh hk with rfl | rfl
    · exact h3
    · exact h4, h5⟩
  set := fun {w p F now l} id at_ ⟨g, b, sl, xs, e1, e2, h, h0, hr⟩ hn hid hat => by
    subst e1 e2
    cases hm : mayW id
    · refine (whsetNot_any h.c1 id at_ hm).mono ?_
      rintro e w' ⟨rfl, rfl⟩
      refine ⟨rfl, _, ⟨g, b, sl, xs, rfl, rfl, ?_, h0, ?_⟩, Grow.refl _ _, Out.refl _ _⟩
      · unfold toW
        rw [hm]
        exact h
      · unfold toW
        rw [hm]
        exact hr
    · refine (whset_any h h0 hn id at_ hm hat).mono ?_
      rintro e w' ⟨rfl, sl', xs', h1, h2, h3⟩
      have hr2 := toW_right (id := id) hr hn hat.2
      refine ⟨rfl, _, ⟨g, b, sl', xs', rfl, rfl, ?_, h0, hr2⟩, h2, h3⟩
      unfold toW
      rw [hm]
      exact h1
  unset := fun {w p F now l} id ⟨g, b, sl, xs, e1, e2, h, h0, hr⟩ hid => by
    subst e1 e2
    refine (whunset_any h id hid).mono ?_
    rintro e w' ⟨rfl, sl', xs', h1, h2, h3⟩
    exact ⟨rfl, _, ⟨g, b, sl', xs', rfl, rfl, h1, h0, hr.out id⟩, fun k hk => .inl (h2 k hk), h3⟩
  when := fun {w p F now l} id ⟨g, b, sl, xs, e1, e2, h, h0, hr⟩ hid => by
    subst e1 e2
    refine (whwhen_any h id hid).mono ?_
    rintro e w' ⟨rfl, rfl⟩
    exact ⟨_, rfl, whenW_mem, whenW_no, Low.refl _⟩
  advance := fun {w p F now l} ⟨g, b, sl, xs, e1, e2, h, h0, hr⟩ hn => by
    subst e1 e2
    refine (whadvance_any h hr h0 hn).mono ?_
    rintro e w' ⟨A, c, rfl, hns, sl', xs', h1, h2, h3⟩
    exact ⟨A, c, rfl, hns, _, ⟨g, b, sl', xs', rfl, rfl, h1, by omega, hr.rest (now + 1)⟩, fun k hk => .inl (h2 k hk), h3⟩
  now_ := fun {w p F now l} ⟨g, b, sl, xs, e1, e2, h, h0, hr⟩ => by
    subst e1 e2
    refine (whnow_any h).mono ?_
    rintro e w' ⟨rfl, rfl⟩
    exact ⟨rfl, Low.refl _⟩
  len := fun {w p F now l} ⟨g, b, sl, xs, e1, e2, h, h0, hr⟩ => by
    subst e1 e2
    refine (whlen_any h).mono ?_
    rintro e w' ⟨rfl, rfl⟩
    exact ⟨rfl, Low.refl _⟩

theorem map_none (w : World) : (binOp .neq 45 (.map none) (.map none)).run Try.prog w = .ok (.bool false) w := by kernel_rfl
theorem whzero_cells : ((Try.prog.info? 48).bind (·.zero)).map (fun z => z.cells) = some zeroWh.toArray := by kernel_rfl
theorem whmadeZ_any {w : World} {v : Value} (h : NoOb 48 w v) : Calls Try.prog 18 #[v] w fun e w' => e = .returned (.bool false) ∧ w' = w := by
  rcases h with rfl | ⟨g, cs, rfl, hz, hb⟩
  · go_enter Try.func18, Try.ntmps18
    go_wp2_with fail
    go_ret
    exact ⟨rfl, rfl⟩
  · unfold IsZero at hz
    rw [whzero_cells] at hz
    injection hz with hz
    subst hz
    have hk : BlkV w 48 g zeroWh := hb
    have c1 : w.cell? ⟨g, 1, none⟩ = some (.map none) := hk.cell 1
    have hne := map_none w
    clear hb hk
    go_enter Try.func18, Try.ntmps18
    go_wp2_with fail
    go_ret
    exact ⟨rfl, rfl⟩
theorem whwhenZ_any {w : World} {v : Value} (h : NoOb 48 w v) (id : Int) : Calls Try.prog 7 #[v, .int .i64 id] w fun e w' => e = .returned (.tuple #[.int .i64 0, .bool false]) ∧ w' = w := by
  have HM := Lib.hid (whmadeZ_any h)
  clear h
  go_enter Try.func7, Try.ntmps7
  go_wp2_with fail
  refine HM.out.mono ?_
  rintro e w2 ⟨rfl, rfl⟩
  go_wp2_with fail
  go_ret2
  exact ⟨rfl, rfl⟩
theorem whnone : WhNone where
  set := fun {w v} id x h hid hx => by
    have HM := Lib.hid (whmadeZ_any h)
    clear h
    go_enter Try.func8, Try.ntmps8
    go_wp2_with fail
    refine HM.out.mono ?_
    rintro e w2 ⟨rfl, rfl⟩
    go_wp2_with fail
    go_ret
    exact ⟨rfl, Low.refl _⟩
  unset := fun {w v} id h hid => by
    have HL := Lib.hid (Low.alloc w (.cells #[.int .i64 id] 3))
    have HW := Lib.hid (whwhenZ_any (h.low HL.out) id)
    clear h
    go_enter Try.func10, Try.ntmps10
    go_wp2_with fail
    change Calls _ _ _ (w.alloc (.cells #[.int .i64 id] 3)) _
    generalize w.alloc (.cells #[.int .i64 id] 3) = w1 at *
    refine HW.out.mono ?_
    rintro e w2 ⟨rfl, rfl⟩
    go_wp2_with fail
    go_ret
    exact ⟨rfl, HL.out⟩
  when := fun {w v} id h hid => (whwhenZ_any h id).mono fun e w' ⟨h1, h2⟩ => ⟨0, h1, by rw [h2]; exact Low.refl _⟩
  advance := fun {w v} h => by
    have HM := Lib.hid (whmadeZ_any h)
    clear h
    go_enter Try.func14, Try.ntmps14
    go_wp2_with fail
    refine HM.out.mono ?_
    rintro e w2 ⟨rfl, rfl⟩
    go_wp2_with fail
    go_ret
    exact ⟨none, 0, rfl, Low.refl _⟩
  now_ := fun {w v} h => by
    have HM := Lib.hid (whmadeZ_any h)
    clear h
    go_enter Try.func15, Try.ntmps15
    go_wp2_with fail
    refine HM.out.mono ?_
    rintro e w2 ⟨rfl, rfl⟩
    go_wp2_with fail
    go_ret
    exact ⟨rfl, Low.refl _⟩
  len := fun {w v} h => by
    have HM := Lib.hid (whmadeZ_any h)
    clear h
    go_enter Try.func16, Try.ntmps16
    go_wp2_with fail
    refine HM.out.mono ?_
    rintro e w2 ⟨rfl, rfl⟩
    go_wp2_with fail
    go_ret
    exact ⟨rfl, Low.refl _⟩
end Go.Proofs.Ythbboiolhejmmaa
