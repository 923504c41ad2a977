/- Stage 20: the program's own history: the newest version; whether a table may be pushed. Conditions: at most 1000 versions. -/
import Derived.Test.YtedldebomoplmaaHiJ
set_option maxRecDepth 100000
namespace Go.Proofs.Ytedldebomoplmaa
open Go.RowKit
set_option linter.unusedVariables false
attribute [local go_sem] Oper.semAt_some

/-- the last one -/
def lastV (ld : List Vd) : Vd := ld.getD (ld.length - 1) zeroVd
def lastX (ld : List Vd) (pre : List Nat) : Vd := match pre.getLast? with | none => zeroVd | some x => ld.getD x zeroVd
theorem lastX_range (ld : List Vd) : lastX ld (List.range ld.length) = lastV ld := by
  unfold lastX lastV
  cases h : ld.length with
  | zero =>
    have : ld = [] := List.eq_nil_of_length_eq_zero h
    subst this
    rfl
  | succ n => rw [List.range_succ]; simp
theorem lastX_snoc (ld : List Vd) (pre : List Nat) (x : Nat) : lastX ld (pre ++ [x]) = ld.getD x zeroVd := by
  unfold lastX
  simp
theorem results_newestH (tmps : Array Value) (w : World) (g : Nat) (x : Vd) (b : Bool) (hp : tmps.getD 2 undef = .pointer (some ⟨g, 0, none⟩)) (hq : tmps.getD 3 undef = .pointer (some ⟨g + 1, 0, none⟩))
    (h1 : BlkV w 37 g (vdC x)) (h2 : BlkV w 4 (g + 1) [.bool b]) : (results Try.f18 tmps).run Try.prog w = .ok (.tuple #[.agg (vdC x).toArray, .bool b]) w := by
  have hc : w.cell? ⟨g + 1, 0, none⟩ = some (.bool b) := h2.cell 0
  have hp' : tmps[2]?.getD undef = .pointer (some ⟨g, 0, none⟩) := by simpa using hp
  have hq' : tmps[3]?.getD undef = .pointer (some ⟨g + 1, 0, none⟩) := by simpa using hq
  have c0 : w.cell? ⟨g, 0, none⟩ = some (.int .i64 x.n) := h1.cell 0
  have c1 : w.cell? ⟨g, 1, none⟩ = some (.int .i64 x.f) := h1.cell 1
  have c2 : w.cell? ⟨g, 2, none⟩ = some (.int .i64 x.u) := h1.cell 2
  have c3 : w.cell? ⟨g, 3, none⟩ = some (.slice x.A x.k x.c) := h1.cell 3
  simp [results, Try.results18, go_sem, hp', hq', hc, c0, c1, c2, c3, vdC]
/-- what holds between two rounds of newest -/
def StayH (w : World) (b : Nat) (ld : List Vd) (pre : List Nat) (W : World) : Prop := (BlkV W 37 b (vdC (lastX ld pre)) ∧ BlkV W 4 (b + 1) [.bool (decide (0 < pre.length))]) ∧ Low w W
theorem stayH_own (w w3 : World) (b : Nat) (ld : List Vd) (h8 : w.heap.size ≤ w3.heap.size) : OwnFrom w3.heap.size (StayH w b ld) := fun s A C row hs hg hr =>
  ⟨⟨hs.1.1.keptC hg (fun r e => (hr r e).2), hs.1.2.keptC hg (fun r e => (hr r e).2)⟩, ownFrom_below (β := Unit) (Nat.le_refl _) h8 () A C row hs.2 hg hr⟩

set_option maxRecDepth 100000 in
set_option maxHeartbeats 3200000 in
theorem hnewest_any (p : Option Addr) (A : Option Addr) (n c : Nat) (ld : List Vd) (w : World) (hn : n ≤ 1000) (hs : SeeH w w.heap.size (.pointer p) A n c) (hb : Es verE w w.heap.size A n ld) :
    Calls Try.prog 18 #[.pointer p] w fun e w' => e = .returned (.tuple #[.agg (vdC (lastV ld)).toArray, .bool (decide (0 < n))]) ∧ Low w w' := by
  have HB := Lib.hid hb
  have HS := Lib.hid hs
  have HN := Lib.hid hb.len
  clear hb hs
  refine (callsIn_wide (n := 5)).1 ?_
  refine callsIn_of_wp_marks Try.func18 rfl trivial ?_ rfl
  simp only [Try.ntmps18, List.size_toArray, List.length_cons, List.length_nil, Nat.reduceAdd, Nat.reduceSub, Array.replicate_succ, Array.replicate_zero, List.push_toArray, List.append_toArray, List.nil_append, List.cons_append]
  refine wpIn_wide.2 ?_
  go_wp2_with (with_reducible refine wpList_alloc_v rfl _ rfl _ hver_zero ?_; intro w1 h1 hl1 hz1; refine Hid.out ?_)
  refine Lib.hid ?_
  have H1 := Lib.hid h1
  have HL1 := Lib.hid hl1
  clear h1 hl1
  go_wp2_with fail
  obtain ⟨w2, hw2⟩ : ∃ w2, w2 = w1.alloc (.cells #[.bool false] 4) := ⟨_, rfl⟩
  have k2 : BlkV w2 4 w1.heap.size [.bool false] := by rw [hw2]; exact BlkV.new w1 4 [.bool false]
  have l2 : Low w1 w2 := by rw [hw2]; exact Low.alloc w1 _
  have hz2 : w2.heap.size = w1.heap.size + 1 := by rw [hw2]; simp
  rw [← hw2]
  clear hw2
  obtain ⟨b, hbb⟩ : ∃ b, b = w.heap.size := ⟨_, rfl⟩
  have hb1 : w1.heap.size = b + 1 := by omega
  rw [hb1] at k2 hz2
  rw [← hbb] at H1 HB HS ⊢
  have HBB := Lib.hid hbb
  have hL2 := HL1.out.trans l2
  have K1 := Lib.hid (H1.out.below l2 (by omega))
  have K2 := Lib.hid k2
  have HL := Lib.hid hL2
  clear hz1 l2 hb1 k2 hL2 H1 HL1 hbb
  refine (heach_any p w2).mono ?_
  rintro e w3 ⟨rfl, h3, hz3, hl⟩
  obtain ⟨B, hBB⟩ : ∃ B, B = w2.heap.size := ⟨_, rfl⟩
  rw [← hBB] at h3 hz3 hz2 ⊢
  have H3 := Lib.hid h3
  have hlow2 : Below b w w2 := by rw [HBB.out]; exact HL.out
  have hlow3 : Below b w w3 := hlow2.trans (hl.mono (by omega))
  have HB3 := Lib.hid (HB.out.below hlow3)
  have HS3 := Lib.hid (HS.out.below hlow3 (Nat.le_refl _))
  have J1 := Lib.hid (K1.out.below hl K1.out.lt)
  have J2 := Lib.hid (K2.out.below hl K2.out.lt)
  have HL3 := Lib.hid (HL.out.trans hl)
  have hB2 : b + 2 = B := by omega
  have hB3 : B + 1 = w3.heap.size := by omega
  clear h3 hl hBB hz2 hz3 hlow2 hlow3 HB HS K1 K2 HL
  go_wp2_with fail
  have h8 := HL3.out.size
  have HSQ := Lib.hid (heach1_any 4 (by omega) p A n c ld B b hn w3 (by omega) H3.out HS3.out HB3.out)
  refine (wpIn_wide (n := 5)).1 ?_
  refine wpIn_seq_b rfl (fun args u => by go_simp) (by omega) (cells := fun x : Nat => vdC (ld.getD x zeroVd)) HSQ.out (by omega) (Below.refl _ w3) 37 7 4 rfl
    (StayH w b ld) (stayH_own w w3 b ld h8) ⟨⟨J1.out, J2.out⟩, HL3.out⟩ (fun _ _ => True) (fun _ _ _ _ _ _ _ _ => trivial) (fun _ _ _ _ _ _ _ => trivial) (fun l x W K hK => assign_b (by simp) (by simp) (by decide) hver_zero rfl (by kernel_rfl) (vdC_one _) hK) ?body ?done
  case body =>
    rintro l pre x g W ⟨⟨h1, h2⟩, h4⟩ hg hx _ hW hlt
    have K1 := Lib.hid h1
    have K2 := Lib.hid h2
    have K4 := Lib.hid h4
    have KX := Lib.hid hx
    clear h1 h2 h4 hx
    refine wpIn_block ?_
    refine inR_lit (by rintro ⟨_, _, h⟩; exact h) (by kernel_rfl) ?_
    go_wp2_with (first
      | (refine wpList_load_v rfl _ _ rfl g rfl _ _ KX.out _ Try.underlying37 rfl (by kernel_rfl) ?_; refine Hid.out ?_))
    refine Lib.hid ?_
    go_wp2_with (refine wpList_store_vq rfl _ _ _ rfl b rfl (vdC (ld.getD x zeroVd)) rfl _ _ K1.out rfl (by kernel_rfl) (vdC_one _) ?_; intro w5 h5 hb5 hz5 ho5; refine Hid.out ?_)
    refine Lib.hid ?_
    go_wp2_with (refine wpList_store_one rfl _ _ _ rfl (b + 1) 0 rfl (.bool true) rfl rfl rfl 4 [.bool (decide (0 < pre.length))] (K2.out.same (ho5 (b + 1) (by omega))) (by simp) (by kernel_rfl) ?_; intro w6 h6 hb6 hz6 ho6; refine Hid.out ?_)
    refine Lib.hid ?_
    have h5' := h5.same (ho6 b (by omega))
    go_wp2_with fail
    refine ⟨⟨by omega, fun k o hk h0 ho => (ho6 k (by omega)).trans ((ho5 k (by omega)).trans h0)⟩, hb5.trans (hb6.mono (by omega)), ⟨?_, ?_⟩, ?_⟩
    · rw [lastX_snoc]
      exact h5'
    · have e : decide (0 < (pre ++ [x]).length) = true := by simp
      rw [e]
      exact h6
    · exact Below.trans K4.out ((hb5.trans (hb6.mono (by omega))).mono (by have := HBB.out; omega))
  case done =>
    rintro D xs W hD rfl ⟨⟨h1, h2⟩, h4⟩ hK
    rw [show lastX ld (List.range n) = lastV ld by rw [← HN.out]; exact lastX_range ld] at h1
    rw [List.length_range] at h2
    have K1 := Lib.hid h1
    have K2 := Lib.hid h2
    have K4 := Lib.hid h4
    have HD := Lib.hid hD
    have HK := Lib.hid hK
    clear h1 h2 h4 hD hK
    (try simp only [Exit.inBlock, Exit.then])
    go_wp2_with fail
    refine wp_region_planN (fun y => BlkV y 37 b (vdC (lastV ld)) ∧ BlkV y 4 (b + 1) [.bool (decide (0 < n))] ∧ Below w.heap.size w y ∧ y.heap[D]? = some (.deferred (some []))) (.rd 0 (.rd 1 (.act 2 (.act 3 .done)))) (by kernel_rfl) (by kernel_rfl) (by kernel_rfl) ⟨K1.out, K2.out, Below.drew K4.out, HK.out⟩ ?_
    replace K1 : Hid (BlkV W.drew 37 b (vdC (lastV ld))) := K1
    replace K2 : Hid (BlkV W.drew 4 (b + 1) [.bool (decide (0 < n))]) := K2
    replace K4 : Hid (Below w.heap.size w W.drew) := Lib.hid (Below.drew K4.out)
    replace HK : Hid (W.drew.heap[D]? = some (.deferred (some []))) := HK
    generalize W.drew = W2 at *
    have hDb : D ≠ b ∧ D ≠ b + 1 := by have := HD.out; omega
    refine walkS_read (v := _) rfl (by rfl) (by intro y hy; exact exec_load_v rfl hy.1 _ Try.underlying37 rfl (by kernel_rfl)) ?_
    simp only [Act.put, List.setIfInBounds_toArray, List.set_cons_zero, List.set_cons_succ]
    refine walkS_read (v := .bool (decide (0 < n))) rfl (by rfl) (by
      intro y hy
      have q : y.cell? ⟨b + 1, 0, none⟩ = some (.bool (decide (0 < n))) := hy.2.1.cell 0
      clear hy
      go_simp
      try rfl) ?_
    simp only [Act.put, List.setIfInBounds_toArray, List.set_cons_zero, List.set_cons_succ]
    refine walkS_act rfl (by rfl) (fun K hK => ?_)
    refine wp_store_v 37 _ _ rfl b rfl (vdC (lastV ld)) rfl _ _ K1.out rfl (by kernel_rfl) (vdC_one _) (fun w5 h5 hb5 hz5 ho5 => ?_)
    have j2 := K2.out.same (ho5 (b + 1) (by omega))
    have j4 := Below.trans K4.out (hb5.mono (by have := HBB.out; omega))
    have j5 := (ho5 D hDb.1).trans HK.out
    refine hK _ _ ⟨h5, j2, j4, j5⟩ ?_
    clear hK K
    refine walkS_act rfl (by rfl) (fun K hK => ?_)
    refine wp_store_one 4 _ _ rfl (b + 1) 0 rfl (.bool (decide (0 < n))) rfl rfl rfl 4 _ j2 (by simp) (by kernel_rfl) (fun w6 h6 hb6 hz6 ho6 => ?_)
    have i1 := h5.same (ho6 b (by omega))
    have i4 := Below.trans j4 (hb6.mono (by have := HBB.out; omega))
    have i5 := (ho6 D hDb.2).trans j5
    refine hK _ _ ⟨i1, h6, i4, i5⟩ ?_
    clear hK K
    unfold walkS orThrow
    dsimp only
    have HI1 := Lib.hid i1
    have HI2 := Lib.hid h6
    have HI4 := Lib.hid i4
    have HI5 := Lib.hid i5
    clear i1 h6 i4 i5 hb5 hz5 ho5 hb6 hz6 ho6 h5 j2 j4 j5 K1 K2 K4 HK
    go_wp2_with fail
    refine ⟨by simp, .inl ⟨_, _, rfl, run_takeDeferred HI5.out, ?_⟩⟩
    have e1 := HI1.out.keptC (grownBy_putObj' w6 D (.deferred none)) fun r e => by cases e; exact ⟨_, HI5.out, rfl⟩
    have e2 := HI2.out.keptC (grownBy_putObj' w6 D (.deferred none)) fun r e => by cases e; exact ⟨_, HI5.out, rfl⟩
    exact ⟨_, results_newestH _ _ b _ _ rfl rfl e1 e2, rfl, Below.trans HI4.out (belowK_b (w := w3) h8 _ D _ _ HD.out HI5.out rfl rfl)⟩
end Go.Proofs.Ytedldebomoplmaa
