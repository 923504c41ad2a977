/- Stage 20: the program's own history: how it lies; the going over its versions; tables and versions copied. Conditions: at most 1000 versions, tables of at most 2^44 numbers. -/
import Derived.Test.YtedldebomoplmaaHiE
import Derived.Test.YtedldebomoplmaaEsC
import Derived.Test.YtedldebomoplmaaRnd
import Derived.Lib.SliceRun
set_option maxRecDepth 100000
namespace Go.Proofs.Ytedldebomoplmaa
open Go.RowKit
set_option linter.unusedVariables false
attribute [local go_sem] Oper.semAt_some

/-- what a call sees of a history: no versions of none; else its field -/
def SeeH (w : World) (B : Nat) (p : Value) (A : Option Addr) (n c : Nat) : Prop := (p = .pointer none ∧ n = 0) ∨ ∃ g, p = .pointer (some ⟨g, 0, none⟩) ∧ g < B ∧ w.cell? ⟨g, 1, none⟩ = some (.slice A n c)
theorem SeeH.below {w w' : World} {B B' : Nat} {p : Value} {A : Option Addr} {n c : Nat} (h : SeeH w B p A n c) (hb : Below B w w') (hB : B ≤ B') : SeeH w' B' p A n c := by
  rcases h with h | ⟨g, e, hg, hc⟩
  · exact .inl h
  · exact .inr ⟨g, e, Nat.lt_of_lt_of_le hg hB, (hb.cell (p := ⟨g, 1, none⟩) hg).trans hc⟩

set_option maxHeartbeats 400000 in
theorem heach_any (p : Option Addr) (w : World) : Calls Try.prog 23 #[.pointer p] w fun e w' =>
    e = .returned (.func (.func 30) #[] #[.pointer (some ⟨w.heap.size, 0, none⟩)]) ∧ BlkV w' 24 w.heap.size [.pointer p] ∧ w'.heap.size = w.heap.size + 1 ∧ Low w w' := by
  have k1 := BlkV.new w 24 [.pointer p]
  have l1 := Low.alloc w (.cells #[.pointer p] 24)
  have H1 := Lib.hid k1
  have HL := Lib.hid l1
  clear k1 l1
  go_enter Try.func23, Try.ntmps23
  go_wp2_with fail
  go_ret
  exact ⟨by simp, H1.out, by simp, HL.out⟩

theorem info_hverJ : (Try.prog.info? 37).map (fun i => (i.zero, i.size, i.bytes)) = some (some (.agg #[.int .i64 0, .int .i64 0, .int .i64 0, .slice none 0 0]), 4, 48) := by kernel_rfl
theorem info_hverJ_parts : ∃ i, Try.prog.info? 37 = some i ∧ i.zero = some (.agg #[.int .i64 0, .int .i64 0, .int .i64 0, .slice none 0 0]) ∧ i.size = 4 ∧ i.bytes = 48 := by
  have h := info_hverJ
  cases hi : Try.prog.info? 37 with
  | none => simp [hi] at h
  | some i =>
    simp [hi] at h
    exact ⟨i, rfl, h.1, h.2.1, h.2.2⟩

/-- ints are copied -/
def GivesIc (w : World) (n : Nat) (xs : List Int) (e : Ending) (w' : World) : Prop := ∃ A c, e = .returned (.slice A n c) ∧ OwnN 3 w' w.heap.size A n c xs ∧ Low w w'
set_option maxRecDepth 100000 in
set_option maxHeartbeats 1600000 in
theorem icloneH_some (ad : Addr) (n c : Nat) (l : List Int) (w : World) (hn : n ≤ 17592186044416) (hb : Ns w w.heap.size (some ad) n l) : Calls Try.prog 19 #[.slice (some ad) n c] w (GivesIc w n l) := by
  obtain ⟨i0, hi, hz0, hz1, hz2⟩ := info_int_partsP
  have HI := Lib.hid hi
  have HZ0 := Lib.hid hz0
  have HZ1 := Lib.hid hz1
  have HZ2 := Lib.hid hz2
  have hl := Low.alloc w (.cells #[] 3)
  have hO := OwnN.fresh (base := w.heap.size) w 3 (Nat.le_refl _)
  have hb1 := hb.below hl
  have HLT := Lib.hid hO.lt
  have HL := Lib.hid hl
  have hnil : (binOp .eql 27 (.slice (some ad) n c) (.slice none 0 0)).run Try.prog w = .ok (.bool false) w := Lib.run_eql_slice_nil w 27 3 (some ad) n c 0 0 Try.underlying27
  clear hb hl hi hz0 hz1 hz2
  go_enter Try.func19, Try.ntmps19
  go_wp2_with (at_builtin; refine wpList_append_ns rfl _ _ _ rfl w.heap.size 3 i0 Try.underlying27 HI.out HZ0.out HZ1.out HZ2.out _ 0 0 [] rfl hO _ n c w.heap.size l rfl hb1 (by omega) (by simp) ?_; intro A2 c2 w1 hown hgr hob; refine Hid.out ?_)
  refine Lib.hid ?_
  have hB := HL.out.grown hgr (by simp) fun k e => (HLT.out k e).1
  rw [List.nil_append] at hown
  have HOW := Lib.hid hown
  clear hgr hob hown hO hb1 hnil
  go_wp2_with fail
  go_ret
  exact ⟨A2, c2, by simp, by simpa using HOW.out, hB⟩
set_option maxRecDepth 100000 in
theorem icloneH_any (A : Option Addr) (n c : Nat) (l : List Int) (w : World) (hn : n ≤ 17592186044416) (hb : Ns w w.heap.size A n l) : Calls Try.prog 19 #[.slice A n c] w (GivesIc w n l) := by
  cases A with
  | some ad => exact icloneH_some ad n c l w hn hb
  | none =>
    have hn0 : n = 0 := by
      rcases Nat.eq_zero_or_pos n with h | h
      · exact h
      · obtain ⟨b, o, e, _⟩ := hb.mem h
        cases e
    subst hn0
    obtain rfl : l = [] := List.eq_nil_of_length_eq_zero hb.len
    have hnil : (binOp .eql 27 (.slice none 0 c) (.slice none 0 0)).run Try.prog w = .ok (.bool true) w := Lib.run_eql_slice_nil w 27 3 none 0 c 0 0 Try.underlying27
    go_enter Try.func19, Try.ntmps19
    go_wp2_with fail
    go_ret
    exact ⟨none, 0, rfl, OwnN.noneP _ _ _, Below.refl _ _⟩

set_option maxRecDepth 100000 in
set_option maxHeartbeats 1600000 in
theorem vcloneH_some (ad : Addr) (n c : Nat) (l : List Vd) (w : World) (hn : n ≤ 1000) (hb : Es verE w w.heap.size (some ad) n l) : Calls Try.prog 29 #[.slice (some ad) n c] w fun e w' => ∃ A' c', e = .returned (.slice A' n c') ∧ OwnE verE 37 w' w.heap.size A' n c' l ∧ Low w w' := by
  obtain ⟨i0, hi, hz0, hz1, hz2⟩ := info_hverJ_parts
  have HI := Lib.hid hi
  have HZ0 := Lib.hid hz0
  have HZ1 := Lib.hid hz1
  have HZ2 := Lib.hid hz2
  have hl := Low.alloc w (.cells #[] 37)
  have hO := OwnE.freshG verE (base := w.heap.size) w 37 (Nat.le_refl _)
  have hb1 := hb.below hl
  have HLT := Lib.hid hO.lt
  have HL := Lib.hid hl
  have hnil : (binOp .eql 44 (.slice (some ad) n c) (.slice none 0 0)).run Try.prog w = .ok (.bool false) w := Lib.run_eql_slice_nil w 44 37 (some ad) n c 0 0 Try.underlying44
  clear hb hl hi hz0 hz1 hz2
  go_enter Try.func29, Try.ntmps29
  go_wp2_with (at_builtin; refine wpList_append_es (E := verE) rfl _ _ _ rfl w.heap.size 37 i0 _ 48 Try.underlying44 HI.out HZ0.out HZ1.out rfl HZ2.out _ 0 0 [] rfl hO _ n c w.heap.size l rfl hb1 (by omega) (by omega) (by simp) ?_; intro A2 c2 w1 hown hgr hob; refine Hid.out ?_)
  refine Lib.hid ?_
  have hB := HL.out.grown hgr (by simp) fun k e => (HLT.out k e).1
  rw [List.nil_append] at hown
  have HOW := Lib.hid hown
  clear hgr hob hown hO hb1 hnil
  go_wp2_with fail
  go_ret
  exact ⟨A2, c2, by simp, by simpa using HOW.out, hB⟩
set_option maxRecDepth 100000 in
theorem vcloneH_any (A : Option Addr) (n c : Nat) (l : List Vd) (w : World) (hn : n ≤ 1000) (hb : Es verE w w.heap.size A n l) : Calls Try.prog 29 #[.slice A n c] w fun e w' => ∃ A' c', e = .returned (.slice A' n c') ∧ OwnE verE 37 w' w.heap.size A' n c' l ∧ Low w w' := by
  cases A with
  | some ad => exact vcloneH_some ad n c l w hn hb
  | none =>
    have hn0 : n = 0 := by
      rcases Nat.eq_zero_or_pos n with h | h
      · exact h
      · obtain ⟨b, o, e, _⟩ := hb.mem h
        cases e
    subst hn0
    obtain rfl : l = [] := List.eq_nil_of_length_eq_zero hb.len
    have hnil : (binOp .eql 44 (.slice none 0 c) (.slice none 0 0)).run Try.prog w = .ok (.bool true) w := Lib.run_eql_slice_nil w 44 37 none 0 c 0 0 Try.underlying44
    go_enter Try.func29, Try.ntmps29
    go_wp2_with fail
    go_ret
    exact ⟨none, 0, rfl, OwnE.none_ _ _ _ _, Below.refl _ _⟩

/-- a version with its table copied -/
def GivesCp (w : World) (x : Vd) (e : Ending) (w' : World) : Prop := ∃ A c, e = .returned (.agg (vdC ⟨x.n, x.f, x.u, A, x.k, c, x.t⟩).toArray) ∧ OwnN 3 w' w.heap.size A x.k c x.t ∧ Low w w'
set_option maxRecDepth 100000 in
set_option maxHeartbeats 1600000 in
theorem copied_any (x : Vd) (w : World) (hk : x.k ≤ 17592186044416) (hb : Ns w w.heap.size x.A x.k x.t) : Calls Try.prog 22 #[.agg (vdC x).toArray] w (GivesCp w x) := by
  have HB := Lib.hid hb
  have HKK := Lib.hid hk
  clear hb hk
  go_enter Try.func22, Try.ntmps22
  go_wp2_with (with_reducible refine wpList_box_v rfl _ _ rfl (vdC x) rfl ?_; intro w1 h1 hl1 hz1; refine Hid.out ?_)
  refine Lib.hid ?_
  have H1 := Lib.hid h1
  have HL1 := Lib.hid hl1
  clear h1 hl1
  go_wp2_with (with_reducible refine wpList_alloc_v rfl _ rfl _ hver_zero ?_; intro w2 h2 hl2 hz2; refine Hid.out ?_)
  refine Lib.hid ?_
  have h1 := H1.out.below hl2 (by omega)
  have hL := HL1.out.trans hl2
  obtain ⟨b, hbb⟩ : ∃ b, b = w.heap.size := ⟨_, rfl⟩
  have hb2 : w1.heap.size = b + 1 := by omega
  rw [hb2] at h2
  have hB2 := HB.out.below' hL hL.size
  rw [← hbb] at h1 ⊢
  have hs0 : w.heap.size ≤ b := by omega
  have c3 : w2.cell? ⟨b, 3, none⟩ = some (.slice x.A x.k x.c) := h1.cell 3
  have HZ := Lib.hid (show w2.heap.size = b + 2 by omega)
  have HBB := Lib.hid hbb
  replace H1 := Lib.hid h1
  have H2 := Lib.hid h2
  have HL := Lib.hid hL
  clear HL1 hl2 hz1 hz2 hb2 hbb h1 h2 hL
  go_wp2_with fail
  refine (icloneH_any x.A x.k x.c x.t w2 HKK.out hB2).mono ?_
  rintro e w3 ⟨A, c, rfl, hO, hl3⟩
  have K1 := H1.out.below hl3 H1.out.lt
  have K2 := H2.out.below hl3 H2.out.lt
  have HL3 := Lib.hid (HL.out.trans hl3)
  have hs2 := HL.out.size
  have HO := Lib.hid hO
  have HB1 := Lib.hid H1.out.lt
  clear hl3 hO H1 H2 HL c3 hB2
  go_wp2_with (refine wpList_store_one rfl _ _ _ rfl b 3 rfl (.slice A x.k c) rfl rfl rfl 37 (vdC x) K1 (by simp [vdC]) (by kernel_rfl) ?_; intro w4 h4 hb4 hz4 ho4; refine Hid.out ?_)
  refine Lib.hid ?_
  have h4' : BlkV w4 37 b (vdC ⟨x.n, x.f, x.u, A, x.k, c, x.t⟩) := h4
  have k4 := K2.same (ho4 (b + 1) (by omega))
  have hL4 := Below.trans HL3.out (hb4.mono hs0)
  clear h4
  have HO4 := Lib.hid (HO.out.byT (w' := w4) fun k cs z hk => ho4 k (K1.neT hk (by decide +kernel)))
  have HLT := Lib.hid (show b + 1 < w4.heap.size from k4.lt)
  have HL4 := Lib.hid hL4
  clear hL4 hb4 hz4 ho4 HO HL3 K1 K2
  go_wp2_with (refine wpList_load_v rfl _ _ rfl b rfl _ _ h4' _ Try.underlying37 rfl (by kernel_rfl) ?_; refine Hid.out ?_)
  refine Lib.hid ?_
  go_wp2_with (refine wpList_store_vq rfl _ _ _ rfl (b + 1) rfl (vdC ⟨x.n, x.f, x.u, A, x.k, c, x.t⟩) rfl _ _ k4 rfl (by kernel_rfl) (vdC_one _) ?_; intro w5 h5 hb5 hz5 ho5; refine Hid.out ?_)
  refine Lib.hid ?_
  have HO5 := Lib.hid (HO4.out.byT (w' := w5) fun k cs z hk => ho5 k (k4.neT hk (by decide +kernel)))
  have HL5 := Lib.hid (Below.trans HL4.out (hb5.mono (by omega)))
  clear HO4 HL4 hb5 ho5 k4 h4'
  go_wp2_with fail
  refine bodyPost_ret (results_cell1K rfl _ _ (b + 1) _ _ _ rfl h5 Try.underlying37 rfl (by kernel_rfl)) rfl ?_
  exact ⟨A, c, rfl, HO5.out.lower (by have := hs2; omega), HL5.out⟩

set_option maxRecDepth 100000 in
set_option maxHeartbeats 3200000 in
/-- what the going over hands out: the versions, one by one -/
theorem heach1_any (k : Nat) (hk : 1 ≤ k) (p : Option Addr) (A : Option Addr) (n c : Nat) (ld : List Vd) (B n0 : Nat) (hn : n ≤ 1000) (w : World) (hn0 : n0 ≤ B)
    (h1 : BlkV w 24 B [.pointer p]) (hs : SeeH w n0 (.pointer p) A n c) (hb : Es verE w n0 A n ld) :
    SeqStopsK (α := Nat) Fence.wide k Try.prog 30 #[.pointer (some ⟨B, 0, none⟩)] (fun x => #[.agg (vdC (ld.getD x zeroVd)).toArray]) (Below n0) (fun xs => xs = List.range n) (fun _ => True) n w := by
  intro l J Jx W hW hJ hJx hY h0
  have HL := Lib.hid hb.len
  have H1 := Lib.hid (h1.below hW h1.lt)
  have hlt0 := h1.lt
  have HB := Lib.hid (hb.keep fun p hp => hW.cell (by omega))
  have HS := Lib.hid (show SeeH W n0 (.pointer p) A n c from hs.below (hW.mono (by omega)) (Nat.le_refl _))
  have c1 : W.cell? ⟨B, 0, none⟩ = some (.pointer p) := H1.out.cell 0
  have HYY := Lib.hid hY
  have HJJ := Lib.hid hJ
  have hW0 : n0 ≤ W.heap.size := by have := H1.out.lt; omega
  clear h1 hb hs hW hJ hJx hY hlt0
  refine callsIn_of_wp Try.func30 rfl trivial ?_ rfl
  simp only [Try.ntmps30, List.size_toArray, List.length_cons, List.length_nil, Nat.reduceAdd, Nat.reduceSub, Array.replicate_succ, Array.replicate_zero, List.push_toArray, List.append_toArray, List.nil_append, List.cons_append]
  rcases HS.out with ⟨e, rfl⟩ | ⟨g, e, hg, hc⟩
  · injection e with e
    subst e
    gi_wp2
    refine bodyPost_ret (results_none rfl _ _ _) rfl ?_
    exact ⟨⟨_, rfl⟩, .inl h0⟩
  · injection e with e
    subst e
    have HGC := Lib.hid hc
    have HGG := Lib.hid hg
    gi_wp2
    clear c1 hc
    gi_loopw [12] (fun v12 wr => ∃ i : Nat, i ≤ n ∧ v12 = .int .i64 i ∧ Hid (J (List.range i) wr) ∧ Hid (Below n0 W wr)) (fun v12 _ => n - (intOf v12).toNat)
    case atStart => exact ⟨0, Nat.zero_le _, rfl, Lib.hid h0, Lib.hid (Below.refl _ _)⟩
    case round =>
      clear h0
      obtain ⟨i, hi, rfl, HJ, HK⟩ := hrel
      by_cases hlt : i < n
      · have hlt2 : (i : Int) < n := by omega
        obtain ⟨b, o, rfl, hbn, _⟩ := HB.out.mem (by omega)
        obtain ⟨_, hr0⟩ := (HB.out.below HK.out).at_ hlt
        have hr : wr.rangeAt b (o + i * 4) (vdC (ld.getD i zeroVd)) := hr0
        clear hr0
        obtain ⟨q1, q2, q3, q4⟩ := ver_cells hr
        clear hr
        obtain ⟨x, hxx⟩ : ∃ x, x = ld.getD i zeroVd := ⟨_, rfl⟩
        rw [← hxx] at q1 q2 q3 q4
        iterate 17 gi_step
        refine wpIn_wide.2 ?_
        obtain ⟨x1, x2, x3, x4, x5, x6, x7⟩ := x
        dsimp only at q1 q2 q3 q4
        have HXX := Lib.hid hxx
        clear hxx
        go_wp2_with (with_reducible refine wpList_alloc_v rfl _ rfl _ hver_zero ?_; intro w2 h2 hl2 hz2; refine Hid.out ?_)
        refine Lib.hid ?_
        go_wp2_with (refine wpList_store_vq rfl _ _ _ rfl wr.heap.size rfl (vdC ⟨x1, x2, x3, x4, x5, x6, x7⟩) rfl _ _ h2 rfl (by kernel_rfl) (vdC_one _) ?_; intro w5 h5 hb5 hz5 ho5; refine Hid.out ?_)
        refine Lib.hid ?_
        have hl5 : Low wr w5 := Below.trans hl2 hb5
        have HJ5 := Lib.hid (HJJ.out _ wr w5 none HJ.out (grown_of_lowR hl5) (fun r e => by cases e))
        have HK5 := Lib.hid (Below.trans HK.out (hl5.mono (by have := HK.out.size; omega)))
        have H5 := Lib.hid h5
        clear h2 hl2 hz2 h5 hb5 hz5 ho5 hl5 HJ HK q1 q2 q3 q4
        go_wp2_with fail
        obtain ⟨fn, tmps, assign, body, hy, hR⟩ := HYY.out (List.range i) i w5 HJ5.out (by simpa using hlt)
        rw [← HXX.out] at hy
        simp only [vdC] at hy
        have c5 : w5.cell? ⟨wr.heap.size, 0, none⟩ = some (.int .i64 x1) := H5.out.cell 0
        have c6 : w5.cell? ⟨wr.heap.size, 1, none⟩ = some (.int .i64 x2) := H5.out.cell 1
        have c7 : w5.cell? ⟨wr.heap.size, 2, none⟩ = some (.int .i64 x3) := H5.out.cell 2
        have c8 : w5.cell? ⟨wr.heap.size, 3, none⟩ = some (.slice x4 x5 x6) := H5.out.cell 3
        clear HYY HJJ HJ5
        gi_wp2
        refine hR.mono ?_
        rintro e W3 (⟨rfl, hj3, hk3⟩ | ⟨rfl, hx3⟩)
        · clear hR hy
          have HJ3 := Lib.hid hj3
          have HK3 := Lib.hid (HK5.out.trans hk3)
          clear hj3 hk3
          gi_wp2
          go_roundw
          case rel => exact ⟨i + 1, by omega, by go_num, Lib.hid (by rw [List.range_succ]; exact HJ3.out), HK3⟩
          case measure => simp [intOf]; omega
        · gi_wp2
          refine bodyPost_ret (results_none rfl _ _ _) rfl ?_
          exact ⟨⟨_, rfl⟩, .inr ⟨_, trivial, hx3⟩⟩
      · obtain rfl : i = n := by omega
        gi_wp2
        go_end0
        exact ⟨⟨_, rfl⟩, .inl ⟨_, rfl, HJ.out⟩⟩
end Go.Proofs.Ytedldebomoplmaa
