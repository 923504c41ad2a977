/- Stage 18: what pick.Two answers. Condition: at most 1000 slots. -/
import Derived.Test.YtedldebomoplmaaPiE
set_option maxRecDepth 100000
namespace Go.Proofs.Ytedldebomoplmaa
open Go.RowKit
set_option linter.unusedVariables false
attribute [local go_sem] Oper.semAt_some

/-- what pick.other tells -/
def otherP (t : List Int) (H : Nat) (o : Int) : Int := ((metP t H).find? fun x => x != o).getD 0
theorem otherP_none {t : List Int} {H : Nat} {o : Int} (h : ∀ i ∈ List.range (metP t H).length, (metP t H).getD i 0 = o) : otherP t H o = 0 := by
  unfold otherP
  rw [List.find?_eq_none.2 fun x hx => ?_]
  · rfl
  · obtain ⟨j, hj, rfl⟩ := List.mem_iff_getElem.1 hx
    have h1 := h j (List.mem_range.2 hj)
    have h2 : (metP t H).getD j 0 = (metP t H)[j] := by simp [List.getD, hj]
    rw [h2] at h1
    simp [h1]
theorem otherP_some {t : List Int} {H k : Nat} {o : Int} (hk : k < (metP t H).length) (h : ∀ i ∈ List.range k, (metP t H).getD i 0 = o) (h1 : (metP t H).getD k 0 ≠ o) : otherP t H o = (metP t H).getD k 0 := by
  unfold otherP
  generalize metP t H = r at *
  have e : r = r.take k ++ r.getD k 0 :: r.drop (k + 1) := by
    have h1 := (List.take_append_drop k r).symm
    rw [List.drop_eq_getElem_cons hk] at h1
    simp only [List.getD, List.getElem?_eq_getElem hk, Option.getD_some]
    exact h1
  have h2 : (r.take k).find? (fun x => x != o) = none := by
    rw [List.find?_eq_none]
    intro x hx
    obtain ⟨j, hj, rfl⟩ := List.mem_take_iff_getElem.1 hx
    have h3 := h j (List.mem_range.2 (by omega))
    have h4 : r.getD j 0 = r[j] := by simp [List.getD, show j < r.length by omega]
    rw [h4] at h3
    simp [h3]
  have e2 : (r.take k ++ r.getD k 0 :: r.drop (k + 1)).getD k 0 = r.getD k 0 := by rw [← e]
  have h5 : (r.getD k 0 != o) = true := by simpa using h1
  have h6 : r.find? (fun x => x != o) = some (r.getD k 0) := by
    rw [e, List.find?_append, h2, e2]
    simp only [List.find?_cons, h5, Option.none_or]
  rw [h6]
  rfl
theorem otherP_from {t : List Int} {H : Nat} {o : Int} (h : t.length ≠ 0) : otherP t H o = fromP t (H % t.length) o := by rw [fromP_find]; rfl
theorem firstP_other (t : List Int) (H : Nat) : otherP t H 0 = firstP t H := by
  unfold firstP
  by_cases h : t.length = 0
  · rw [if_pos h, List.eq_nil_of_length_eq_zero h]
    simp [otherP, metP, posP, roundP]
  · rw [if_neg h, otherP_from h]
theorem secondP_other (t : List Int) (H : Nat) : otherP t (H / 4294967296) (firstP t H) = secondP t H := by
  unfold secondP
  by_cases h : t.length = 0
  · rw [if_pos h, List.eq_nil_of_length_eq_zero h]
    simp [otherP, metP, posP, roundP]
  · rw [if_neg h, otherP_from h]
    by_cases h0 : firstP t H = 0
    · rw [if_pos h0, h0]
      refine fromP_no fun ⟨x, hx, h1, h2⟩ => ?_
      have h3 := fromP_some (t := t) (a := H % t.length) (o := 0) ⟨x, hx, h1, h2⟩
      unfold firstP at h0
      rw [if_neg h] at h0
      omega
    · rw [if_neg h0]

theorem results_other (tmps : Array Value) (w : World) (g : Nat) (x : Int) (hp : tmps.getD 6 undef = .pointer (some ⟨g, 0, none⟩)) (hb : BlkV w 3 g [.int .i64 x]) : (results Try.f31 tmps).run Try.prog w = .ok (.int .i64 x) w := by
  have hc : w.cell? ⟨g, 0, none⟩ = some (.int .i64 x) := by rw [hb.cell 0]; rfl
  have hp' : tmps[6]?.getD undef = .pointer (some ⟨g, 0, none⟩) := by simpa using hp
  simp [results, Try.results31, go_sem, hp', hc]
/-- what holds between two rounds of other, and where a round leaves -/
def StayO (w : World) (b1 : Nat) (o : Int) (L : List Int) (pre : List Nat) (W : World) : Prop := (BlkV W 3 b1 [.int .i64 o] ∧ BlkV W 3 (b1 + 1) [.int .i64 0] ∧ (∀ i ∈ pre, L.getD i 0 = o)) ∧ Low w W
def LeftO (w : World) (b1 : Nat) (o : Int) (L : List Int) (c : Code) (pre : List Nat) (W : World) : Prop := (c = .ret ∧ ∃ pre' x, pre = pre' ++ [x] ∧ (∀ i ∈ pre', L.getD i 0 = o) ∧ L.getD x 0 ≠ o ∧ BlkV W 3 (b1 + 1) [.int .i64 (L.getD x 0)]) ∧ Low w W
theorem stayO_own (w w3 : World) (b1 : Nat) (o : Int) (L : List Int) (h8 : w.heap.size ≤ w3.heap.size) : OwnFrom w3.heap.size (StayO w b1 o L) := fun s A C row hs hg hr =>
  ⟨⟨hs.1.1.keptC hg (fun r e => (hr r e).2), hs.1.2.1.keptC hg (fun r e => (hr r e).2), hs.1.2.2⟩, ownFrom_below (β := Unit) (Nat.le_refl _) h8 () A C row hs.2 hg hr⟩
theorem leftO_own (w w3 : World) (b1 : Nat) (o : Int) (L : List Int) (h8 : w.heap.size ≤ w3.heap.size) (c : Code) : OwnFrom w3.heap.size (LeftO w b1 o L c) := fun s A C row hs hg hr => by
  obtain ⟨⟨e0, pre', x, e, h1, h2, h3⟩, h4⟩ := hs
  exact ⟨⟨e0, pre', x, e, h1, h2, h3.keptC hg (fun r e => (hr r e).2)⟩, ownFrom_below (β := Unit) (Nat.le_refl _) h8 () A C row h4 hg hr⟩
set_option maxRecDepth 100000 in
set_option maxHeartbeats 3200000 in
theorem other_any (A : Option Addr) (n c : Nat) (t : List Int) (H : Nat) (o : Int) (w : World) (hn : n ≤ 1000) (hH : H < 18446744073709551616) (hb : Ns w w.heap.size A n t) :
    Calls Try.prog 31 #[.slice A n c, .int .u64 H, .int .i64 o] w fun e w' => e = .returned (.int .i64 (otherP t H o)) ∧ Low w w' := by
  have k1 := BlkV.new w 3 [.int .i64 o]
  have k2 := BlkV.new (w.alloc (.cells #[.int .i64 o] 3)) 3 [.int .i64 0]
  have l1 := Low.alloc w (.cells #[.int .i64 o] 3)
  have l2 := Low.alloc (w.alloc (.cells #[.int .i64 o] 3)) (.cells #[.int .i64 0] 3)
  simp only [World.size_alloc] at k2
  have H1 := Lib.hid (k1.alloc (.cells #[.int .i64 0] 3))
  have H2 := Lib.hid k2
  have HL := Lib.hid (Low.trans l1 l2)
  have HB := Lib.hid hb
  clear k1 k2 l1 l2 hb
  refine (callsIn_wide (n := 5)).1 ?_
  refine callsIn_of_wp_marks Try.func31 rfl trivial ?_ rfl
  simp only [Try.ntmps31, List.size_toArray, List.length_cons, List.length_nil, Nat.reduceAdd, Nat.reduceSub, Array.replicate_succ, Array.replicate_zero, List.push_toArray, List.append_toArray, List.nil_append, List.cons_append]
  refine wpIn_wide.2 ?_
  go_wp2_with fail
  obtain ⟨w2, hw2⟩ : ∃ w2, w2 = (w.alloc (.cells #[.int .i64 o] 3)).alloc (.cells #[.int .i64 0] 3) := ⟨_, rfl⟩
  have hz2 : w2.heap.size = w.heap.size + 2 := by rw [hw2]; simp
  rw [← hw2] at H1 H2 HL ⊢
  obtain ⟨b1, hb1⟩ : ∃ b1, b1 = w.heap.size := ⟨_, rfl⟩
  replace HB := Lib.hid (HB.out.below HL.out)
  have HZ1 := Lib.hid hb1
  rw [← hb1] at H1 H2 HB hz2 ⊢
  clear hw2 hb1
  refine (round_any A n c H w2).mono ?_
  rintro e w3 ⟨rfl, h3, h4, hz3, hl⟩
  obtain ⟨B, hBB⟩ : ∃ B, B = w2.heap.size := ⟨_, rfl⟩
  rw [← hBB] at h3 h4 hz3 hz2 ⊢
  have H3 := Lib.hid h3
  have H4 := Lib.hid h4
  replace HB := Lib.hid (HB.out.below (Below.trans (Below.refl b1 w2) (hl.mono (by omega))))
  replace H1 := Lib.hid (H1.out.below hl (by have := H1.out.lt; omega))
  replace H2 := Lib.hid (H2.out.below hl (by have := H2.out.lt; omega))
  replace HL := Lib.hid (HL.out.trans hl)
  have hB2 : b1 + 2 ≤ B := by omega
  have hB3 : B + 2 ≤ w3.heap.size := by omega
  clear h3 h4 hl hBB hz2 hz3
  go_wp2_with fail
  have h8 := HL.out.size
  have HNO := Lib.hid (@otherP_none t H o)
  have HYE := Lib.hid (fun k => @otherP_some t H k o)
  have HSQ := Lib.hid (round1_any 4 (by omega) A n c t H B b1 hn hH w3 (by omega) H3.out H4.out HB.out)
  generalize metP t H = L at *
  refine (wpIn_wide (n := 5)).1 ?_
  refine wpIn_seq_x rfl (fun args u => by go_simp) (by omega) (enc := fun x : Nat => .int .i64 (L.getD x 0)) HSQ.out
    (fun h k => h.trans k) (fun W l o o' hl _ _ _ => KeepsTo.putObj W l o' (by have := HZ1.out; omega) (by omega)) (Below.refl _ w3) 11 7 rfl
    (StayO w b1 o L) (LeftO w b1 o L) (stayO_own w w3 b1 o L h8) (leftO_own w w3 b1 o L h8)
    ⟨⟨H1.out, H2.out, fun i hi => by cases hi⟩, HL.out⟩ ?assign ?body ?done ?stop
  case assign =>
    intro l v W K hK
    gi_wp2
    exact hK
  case body =>
    rintro l pre x W ⟨⟨h1, h2, h3⟩, h4⟩ hlt
    have c1 : W.cell? ⟨b1, 0, none⟩ = some (.int .i64 o) := by rw [h1.cell 0]; rfl
    have c2 : W.cell? ⟨b1 + 1, 0, none⟩ = some (.int .i64 0) := by rw [h2.cell 0]; rfl
    have f2 := h2.frozen 0
    have K1 := Lib.hid h1
    have K2 := Lib.hid h2
    have K3 := Lib.hid h3
    have K4 := Lib.hid h4
    clear h1 h2 h3 h4
    generalize hy : L.getD x 0 = y at *
    replace hy := Lib.hid hy
    by_cases hyo : y = o
    · have hd : (y != o) = false := by simpa using hyo
      have hyo2 := Lib.hid hyo
      clear hyo c2 f2
      gi_wp2
      exact ⟨KeepsOthers.refl _, KeepsTo.refl _ _ _ _, ⟨K1.out, K2.out, fun i hi => by
        rcases List.mem_append.1 hi with hi | hi
        · exact K3.out i hi
        · rw [List.mem_singleton.1 hi, hy.out]; exact hyo2.out⟩, K4.out⟩
    · have hd : (y != o) = true := by simpa using hyo
      have hyo2 := Lib.hid hyo
      clear hyo
      gi_wp2
      exact ⟨KeepsOthers.setCell _ _ _, ⟨rfl, pre, x, rfl, K3.out, by rw [hy.out]; exact hyo2.out, by rw [hy.out]; exact K2.out.set_ 0 _⟩, K4.out.setCell (p := ⟨b1 + 1, 0, none⟩) (by show w.heap.size ≤ b1 + 1; have := HZ1.out; omega) _⟩
  case done =>
    rintro D xs W hD rfl ⟨⟨h1, h2, h3⟩, h4⟩ hK
    have HE := Lib.hid (HNO.out h3)
    have c2 : W.cell? ⟨b1 + 1, 0, none⟩ = some (.int .i64 0) := by rw [h2.cell 0]; rfl
    have f2 := h2.frozen 0
    have K2 := Lib.hid (h2.set_ 0 (.int .i64 0))
    have K4 := Lib.hid h4
    have HD := Lib.hid hD
    clear h1 h2 h3 h4 hD
    (try simp only [Exit.inBlock, Exit.then])
    go_wp2_with fail
    have hK2 := (KeepsOthers.setCell W ⟨b1 + 1, 0, none⟩ (.int .i64 0)).same D _ hK rfl
    refine ⟨by simp, .inl ⟨_, _, rfl, run_takeDeferred hK2, ?_⟩⟩
    have hL4 := K4.out.setCell (p := ⟨b1 + 1, 0, none⟩) (by show w.heap.size ≤ b1 + 1; have := HZ1.out; omega) (.int .i64 0)
    generalize W.setCell ⟨b1 + 1, 0, none⟩ (.int .i64 0) = W2 at *
    have h5 := K2.out.keptC (grownBy_putObj' W2 D (.deferred none)) fun r e => by cases e; exact ⟨_, hK2, rfl⟩
    exact ⟨_, results_other _ _ (b1 + 1) 0 rfl h5, by rw [HE.out], Below.trans hL4 (belowK_b (w := w3) h8 _ D _ _ HD.out hK2 rfl rfl)⟩
  case stop =>
    rintro D c pre W hD ⟨k, hk, rfl⟩ ⟨⟨rfl, pre', x, e, h1, h2, h3⟩, h4⟩ hK
    rw [List.range_succ] at e
    obtain ⟨rfl, e2⟩ := List.append_inj' e rfl
    obtain rfl : k = x := by simpa using e2
    have HE := Lib.hid (HYE.out k hk h1 h2)
    have HD := Lib.hid hD
    have K3 := Lib.hid h3
    have K4 := Lib.hid h4
    clear h1 h2 h3 h4 hD e e2
    gi_wp2
    refine ⟨by simp, .inl ⟨_, _, rfl, run_takeDeferred hK, ?_⟩⟩
    have h5 := K3.out.keptC (grownBy_putObj' W D (.deferred none)) fun r e => by cases e; exact ⟨_, hK, rfl⟩
    exact ⟨_, results_other _ _ (b1 + 1) _ rfl h5, by rw [HE.out], Below.trans K4.out (belowK_b (w := w3) h8 _ D _ _ HD.out hK rfl rfl)⟩

set_option maxHeartbeats 1600000 in
theorem pitwo_any : PiTwos := by
  intro A n c t H w hn hnc hH hb
  have HO := Lib.hid (fun u H o => other_any A n c t H o u hn)
  obtain ⟨f, hf⟩ : ∃ f, f = otherP t H 0 := ⟨_, rfl⟩
  obtain ⟨s, hs⟩ : ∃ s, s = otherP t (H / 4294967296) f := ⟨_, rfl⟩
  have HF := Lib.hid (show f = firstP t H by rw [hf, firstP_other])
  have HS := Lib.hid (show s = secondP t H by rw [hs, hf, firstP_other, secondP_other])
  replace hf := Lib.hid hf
  replace hs := Lib.hid hs
  have HB := Lib.hid hb
  have e2 := high_natP H
  have hH2 : H / 4294967296 < 18446744073709551616 := by omega
  clear hb
  generalize H / 4294967296 = H2 at *
  go_enter Try.func24, Try.ntmps24
  go_wp2_with fail
  refine (HO.out w H 0 hH HB.out).mono ?_
  rintro e w2 ⟨rfl, hl⟩
  rw [← hf.out]
  replace HB := Lib.hid (HB.out.below' hl hl.size)
  have hL := Lib.hid hl
  clear hl
  go_wp2_with fail
  refine (HO.out w2 H2 f hH2 HB.out).mono ?_
  rintro e w3 ⟨rfl, hl⟩
  rw [← hs.out]
  replace hL := Lib.hid (hL.out.trans hl)
  clear hl
  go_wp2_with fail
  go_ret2
  exact ⟨ret_ii HF.out HS.out, hL.out⟩

end Go.Proofs.Ytedldebomoplmaa
