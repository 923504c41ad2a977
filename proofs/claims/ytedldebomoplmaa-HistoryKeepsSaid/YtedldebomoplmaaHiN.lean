/- Stage 20: the program's own history: the pairs of its versions. Conditions: at most 1000 versions, tables of at most 1000 numbers. -/
import Derived.Test.YtedldebomoplmaaHiM
import Derived.Test.YtedldebomoplmaaPiF
set_option maxRecDepth 100000
namespace Go.Proofs.Ytedldebomoplmaa
open Go.RowKit
set_option linter.unusedVariables false
attribute [local go_sem] Oper.semAt_some

def twoH (v : Vd) (H : Nat) : Int × Int := (firstP v.t H, secondP v.t H)
/-- what holds between two rounds of Pairs -/
def StayW (w : World) (ld : List Vd) (H : Nat) (pre : List Nat) (W : World) : Prop :=
  (BlkV W 23 w.heap.size [.int .u64 H] ∧ ∃ D c, BlkV W 40 (w.heap.size + 1) [.slice D pre.length c] ∧ OwnE pairE 46 W w.heap.size D pre.length c (pre.map fun i => twoH (ld.getD i zeroVd) H)) ∧ Low w W
theorem stayW_own (w w3 : World) (ld : List Vd) (H : Nat) (h8 : w.heap.size ≤ w3.heap.size) : OwnFrom w3.heap.size (StayW w ld H) := fun s A C row hs hg hr => by
  obtain ⟨⟨h0, D, c, h1, h2⟩, h5⟩ := hs
  exact ⟨⟨h0.keptC hg (fun r e => (hr r e).2), D, c, h1.keptC hg (fun r e => (hr r e).2), h2.keptC hg (fun r e => (hr r e).2)⟩, ownFrom_below (β := Unit) (Nat.le_refl _) h8 () A C row h5 hg hr⟩

set_option maxRecDepth 100000 in
set_option maxHeartbeats 6400000 in
theorem hpairs_any (p : Option Addr) (A : Option Addr) (n c : Nat) (ld : List Vd) (H : Nat) (w : World) (hn : n ≤ 1000) (hH : H < 18446744073709551616) (hs : SeeH w w.heap.size (.pointer p) A n c) (hb : Es verE w w.heap.size A n ld) (ht : ∀ x ∈ ld, Ns w w.heap.size x.A x.k x.t ∧ x.k ≤ x.c ∧ x.k ≤ 1000) :
    Calls Try.prog 12 #[.pointer p, .int .u64 H] w fun e w' => ∃ D d, e = .returned (.slice D n d) ∧ OwnE pairE 46 w' w.heap.size D n d (ld.map fun v => twoH v H) ∧ Low w w' := by
  have HB := Lib.hid hb
  have HS := Lib.hid hs
  have HN := Lib.hid hb.len
  have HT := Lib.hid (show ∀ i, Ns w w.heap.size (ld.getD i zeroVd).A (ld.getD i zeroVd).k (ld.getD i zeroVd).t ∧ (ld.getD i zeroVd).k ≤ (ld.getD i zeroVd).c ∧ (ld.getD i zeroVd).k ≤ 1000 from fun i => by
    by_cases hi : i < ld.length
    · have e : ld.getD i zeroVd = ld[i] := by simp [List.getD, hi]
      rw [e]
      exact ht _ (List.getElem_mem _)
    · have e : ld.getD i zeroVd = zeroVd := by simp [List.getD, List.getElem?_eq_none (Nat.le_of_not_lt hi)]
      rw [e]
      exact ⟨Ns.nil _ _ _, by decide, by decide⟩)
  clear hb hs ht
  obtain ⟨i0, hi, hz0, hz1, hz2⟩ := info_two_parts
  have HI := Lib.hid hi
  have HZ0 := Lib.hid hz0
  have HZ1 := Lib.hid hz1
  have HZ2 := Lib.hid hz2
  clear hi hz0 hz1 hz2
  refine (callsIn_wide (n := 5)).1 ?_
  refine callsIn_of_wp_marks Try.func12 rfl trivial ?_ rfl
  simp only [Try.ntmps12, List.size_toArray, List.length_cons, List.length_nil, Nat.reduceAdd, Nat.reduceSub, Array.replicate_succ, Array.replicate_zero, List.push_toArray, List.append_toArray, List.nil_append, List.cons_append]
  refine wpIn_wide.2 ?_
  go_wp2_with fail
  obtain ⟨w2, hw2⟩ : ∃ w2, w2 = (w.alloc (.cells #[.int .u64 H] 23)).alloc (.cells #[.slice none 0 0] 40) := ⟨_, rfl⟩
  have k1 : BlkV w2 23 w.heap.size [.int .u64 H] := by rw [hw2]; exact (BlkV.new w 23 [.int .u64 H]).alloc _
  have k2 : BlkV w2 40 (w.heap.size + 1) [.slice none 0 0] := by rw [hw2]; exact BlkV.second (vs := [.slice none 0 0]) (t := 40) _
  have l2 : Low w w2 := by rw [hw2]; exact (Low.alloc w _).trans (Low.alloc _ _)
  have hz2 : w2.heap.size = w.heap.size + 2 := by rw [hw2]; simp
  rw [← hw2]
  clear hw2
  refine (heach_any p w2).mono ?_
  rintro e w3 ⟨rfl, h3, hz3, hl⟩
  obtain ⟨B, hBB⟩ : ∃ B, B = w2.heap.size := ⟨_, rfl⟩
  rw [← hBB] at h3 hz3 hz2 ⊢
  have H3 := Lib.hid h3
  have hlow3 : Low w w3 := l2.trans hl
  have HB3 := Lib.hid (HB.out.below hlow3)
  have HS3 := Lib.hid (HS.out.below hlow3 (Nat.le_refl _))
  have J1 := Lib.hid (k1.below hl k1.lt)
  have J2 := Lib.hid (k2.below hl k2.lt)
  have HL3 := Lib.hid hlow3
  have hB3 : B + 1 = w3.heap.size := by omega
  have HZZ := Lib.hid hz2
  clear h3 hl hBB hz2 hz3 hlow3 HB HS k1 k2 l2
  go_wp2_with fail
  have h8 := HL3.out.size
  have HSQ := Lib.hid (heach1_any 4 (by omega) p A n c ld B w.heap.size hn w3 (by have := HZZ.out; omega) H3.out HS3.out HB3.out)
  refine (wpIn_wide (n := 5)).1 ?_
  refine wpIn_seq_b rfl (fun args u => by go_simp) (by omega) (cells := fun x : Nat => vdC (ld.getD x zeroVd)) HSQ.out (by omega) (Below.refl _ w3) 37 11 6 rfl
    (StayW w ld H) (stayW_own w w3 ld H h8) ⟨⟨J1.out, none, 0, J2.out, OwnE.none_ _ _ _ _⟩, HL3.out⟩ (fun _ _ => True) (fun _ _ _ _ _ _ _ _ => trivial) (fun _ _ _ _ _ _ _ => trivial) (fun l x W K hK => assign_b (by simp) (by simp) (by decide) hver_zero rfl (by kernel_rfl) (vdC_one _) hK) ?body ?done
  case body =>
    rintro l pre x g W ⟨⟨h0, D, c', h1, h2⟩, h5⟩ hg hx _ hW hlt
    have HNS := Lib.hid ((HT.out x).1.below' (show Below w.heap.size w W from h5) h5.size)
    have HKK := Lib.hid (HT.out x).2
    have HXX := Lib.hid (show twoH (ld.getD x zeroVd) H = (firstP (ld.getD x zeroVd).t H, secondP (ld.getD x zeroVd).t H) from rfl)
    have H0 := Lib.hid h0
    have HA := Lib.hid h1
    have HO := Lib.hid h2
    have HL5 := Lib.hid h5
    have HXB := Lib.hid hx
    have HS2 := Lib.hid (show (pre ++ [x]).map (fun i => twoH (ld.getD i zeroVd) H) = pre.map (fun i => twoH (ld.getD i zeroVd) H) ++ [twoH (ld.getD x zeroVd) H] by simp)
    clear hx h0 h1 h2 h5 HT
    generalize pre.map (fun i => twoH (ld.getD i zeroVd) H) = lp at *
    generalize twoH (ld.getD x zeroVd) H = q at *
    generalize ld.getD x zeroVd = X at *
    obtain ⟨x1, x2, x3, x4, x5, x6, x7⟩ := X
    dsimp only at HNS HKK HXX
    have c3 : W.cell? ⟨g, 3, none⟩ = some (.slice x4 x5 x6) := HXB.out.cell 3
    have c0 : W.cell? ⟨w.heap.size, 0, none⟩ = some (.int .u64 H) := H0.out.cell 0
    refine wpIn_block ?_
    apply wpIn_seq_k
    intro K0 hK0
    refine inR_lit (by rintro ⟨_, _, h⟩; exact h) (by kernel_rfl) ?_
    go_wp2_with fail
    refine (pitwo_any x4 x5 x6 x7 H W (HKK.out.2) HKK.out.1 hH HNS.out).mono ?_
    rintro e w5 ⟨rfl, hl5⟩
    have hq : q = (firstP x7 H, secondP x7 H) := HXX.out
    generalize firstP x7 H = f at *
    generalize secondP x7 H = s at *
    replace H0 := Lib.hid (H0.out.below hl5 H0.out.lt)
    replace HA := Lib.hid (HA.out.below hl5 HA.out.lt)
    replace HO := Lib.hid (HO.out.below hl5)
    have HKF := Lib.hid (show KeepsFrom w3.heap.size W w5 from KeepsFrom.of_grownBy (grown_of_lowR hl5) (fun j e => by cases e))
    have HBW := Lib.hid (show Below w.heap.size W w5 from hl5.mono HL5.out.size)
    replace HL5 := Lib.hid (HL5.out.trans hl5)
    have HQ := Lib.hid hq
    clear hl5 c3 c0 hq HXX HNS HKK HXB
    have hb5 : w.heap.size ≤ w5.heap.size := HL5.out.size
    go_wp2_with fail
    refine inR_lit (by rintro ⟨_, _, h⟩; exact h) (by kernel_rfl) ?_
    have c1 : w5.cell? ⟨w.heap.size + 1, 0, none⟩ = some (.slice D pre.length c') := HA.out.cell 0
    have hlA := Low.alloc w5 (.cells #[.int .i64 f, .int .i64 s] 46)
    have hE : Es pairE (w5.alloc (.cells #[.int .i64 f, .int .i64 s] 46)) (w5.heap.size + 1) (some ⟨w5.heap.size, 0, none⟩) 1 [(f, s)] := Es.one_ (E := pairE) w5 46 (f, s) trivial (Nat.lt_succ_self _)
    have hO7 := HO.out.below hlA
    have hA7 := HA.out.below hlA HA.out.lt
    have h07 := H0.out.below hlA H0.out.lt
    have hsA : (w5.alloc (.cells #[.int .i64 f, .int .i64 s] 46)).heap.size = w5.heap.size + 1 := by simp
    have HA7 := Lib.hid hA7
    have H07 := Lib.hid h07
    have HLA := Lib.hid hlA
    have hbs : w.heap.size ≤ (w5.alloc (.cells #[.int .i64 f, .int .i64 s] 46)).heap.size := by omega
    replace hsA := Lib.hid hsA
    clear hA7 h07 hlA
    go_wp2_with (at_builtin; refine wpList_append_es (E := pairE) rfl _ _ _ rfl w.heap.size 46 i0 _ 16 Try.underlying40 HI.out HZ0.out HZ1.out rfl HZ2.out D pre.length c' lp rfl hO7 _ 1 1 (w5.heap.size + 1) [(f, s)] rfl hE (by omega) (by omega) hbs ?_; intro A9 c9 w9 hown hgr hob; refine Hid.out ?_)
    refine Lib.hid ?_
    generalize w5.alloc (.cells #[.int .i64 f, .int .i64 s] 46) = w7 at *
    have hcs := fun k (e : (Value.slice D pre.length c').ownBlock = some k) => hO7.isCells e
    have hA9 : BlkV w9 40 (w.heap.size + 1) [.slice D pre.length c'] := (hgr.block _ HA7.out.lt (fun e => by obtain ⟨cs, h⟩ := hcs _ e.symm; exact HA7.out.neT h (by decide +kernel) rfl)).trans HA7.out
    have h09 : BlkV w9 23 w.heap.size [.int .u64 H] := (hgr.block _ H07.out.lt (fun e => by obtain ⟨cs, h⟩ := hcs _ e.symm; exact H07.out.neT h (by decide +kernel) rfl)).trans H07.out
    have hKF9 : KeepsFrom w3.heap.size W w9 := (HKF.out.trans (KeepsFrom.of_grownBy (grown_of_lowR HLA.out) (fun j e => by cases e))).trans ⟨hgr.size, fun k o _ hk ho => (hgr.block k (Array.getElem?_eq_some_iff.1 hk).1 (fun e => by
      obtain ⟨cs', h⟩ := hcs _ e.symm
      rw [hk] at h
      injection h with h
      subst h
      cases ho)).trans hk⟩
    have hBW9 : Below w.heap.size W w9 := (HBW.out.trans (HLA.out.mono hb5)).grown hgr hbs (fun k e => (hO7.lt k e).1)
    have hL9 : Low w w9 := (HL5.out.trans HLA.out).grown hgr hbs (fun k e => (hO7.lt k e).1)
    have HA9 := Lib.hid hA9
    have H09 := Lib.hid h09
    have HKF9 := Lib.hid hKF9
    have HBW9 := Lib.hid hBW9
    have HL9 := Lib.hid hL9
    have HOW := Lib.hid hown
    clear hcs hA9 h09 hKF9 hBW9 hL9 hown hgr hob hO7 hE hbs c1 HA7 H07 HLA HO HA H0 HKF HBW HL5
    go_wp2_with (refine wpList_store_one rfl _ _ _ rfl (w.heap.size + 1) 0 rfl (.slice A9 (pre.length + 1) c9) rfl rfl rfl 40 _ HA9.out (by simp) (by kernel_rfl) ?_; intro w10 h10 hb10 hz10 ho10; refine Hid.out ?_)
    refine Lib.hid ?_
    go_wp2_with fail
    refine ⟨HKF9.out.trans ⟨by omega, fun k o _ hk ho => (ho10 k (by
        rintro rfl
        rw [show w9.heap[w.heap.size + 1]? = _ from HA9.out] at hk
        injection hk with hk
        subst hk
        cases ho)).trans hk⟩, HBW9.out.trans (hb10.mono (by omega)), ⟨H09.out.same (ho10 _ (by omega)), A9, c9, ?_, ?_⟩, Below.trans HL9.out (hb10.mono (by omega))⟩
    · rw [List.length_append]
      exact h10
    · rw [List.length_append, HS2.out, HQ.out]
      exact HOW.out.byT fun k cs z hk => ho10 k (HA9.out.neT hk (by decide +kernel))
  case done =>
    rintro X xs W hX rfl ⟨⟨h0, D, c', h1, h2⟩, h5⟩ hK
    rw [List.length_range] at h1 h2
    rw [show (List.range n).map (fun i => twoH (ld.getD i zeroVd) H) = ld.map (fun v => twoH v H) by
      refine List.ext_getElem (by simp [HN.out]) fun i h1 h2 => ?_
      simp only [List.length_map, List.length_range] at h1 h2
      simp [List.getD, h2]] at h2
    have K1 := Lib.hid h1
    have K2 := Lib.hid h2
    have K5 := Lib.hid h5
    have HK := Lib.hid hK
    have HX := Lib.hid hX
    have c3 : W.cell? ⟨w.heap.size + 1, 0, none⟩ = some (.slice D n c') := h1.cell 0
    clear h0 h1 h2 h5 hK hX
    (try simp only [Exit.inBlock, Exit.then])
    go_wp2_with fail
    refine ⟨by simp, .inl ⟨_, _, rfl, run_takeDeferred HK.out, ?_⟩⟩
    refine ⟨_, results_tmp rfl _ _ _, ?_⟩
    have hg := grownBy_putObj' W X (.deferred none)
    have hr : ∀ r, some X = some r → ∃ o : Obj, W.heap[r]? = some o ∧ o.isCells = false := fun r e => by cases e; exact ⟨_, HK.out, rfl⟩
    exact ⟨D, c', rfl, K2.out.keptC hg hr, Below.trans K5.out (belowK_b (w := w3) h8 _ X _ _ HX.out HK.out rfl rfl)⟩
end Go.Proofs.Ytedldebomoplmaa
