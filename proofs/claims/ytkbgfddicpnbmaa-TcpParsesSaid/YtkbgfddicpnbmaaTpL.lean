/- What the document's own Parse answers: the options of bytes. Condition: at most 2^47 bytes. -/
import Derived.Test.YtkbgfddicpnbmaaTpK
import Derived.Test.YtkbgfddicpnbmaaTpG
namespace Go.Proofs.Ytkbgfddicpnbmaa
open Go.RowKit
set_option linter.unusedVariables false

/-- an option ahead of others -/
theorem GivesO.cons {w w2 w3 : World} {od : Od} {os : List Od} {A : Option Addr} {c : Nat} {r : List Ob × Int} {ob : Ob} (hr : r.2 = 0) (hv : od.v = ob) (hvs : os.map Od.v = r.1) (hB : Below w.heap.size w w2) (hgr : Below w2.heap.size w2 w3) (hod : od.ok w2 w2.heap.size) (hos : ∀ o ∈ os, o.ok w2 w2.heap.size) (hfd : od.from_ w.heap.size) (hfs : ∀ o ∈ os, o.from_ w.heap.size)
    (hown : OwnO 85 w3 w2.heap.size A (1 + r.1.length) c ([od] ++ os)) : GivesO w (joinO [ob] r) (.returned (.tuple #[.slice A (1 + r.1.length) c, .int .i64 0])) w3 := by
  have hj : joinO [ob] r = (ob :: r.1, 0) := by unfold joinO; rw [if_pos hr]; rfl
  rw [hj]
  have hl : (ob :: r.1).length = 1 + r.1.length := by rw [List.length_cons]; omega
  refine ⟨A, c, [od] ++ os, by rw [hl], by rw [List.map_append, hvs]; simp [hv], ?_, hB.trans (hgr.mono hB.size), ?_⟩
  rotate_left
  · rw [hl]
    refine OFrom.own hown hB.size fun o ho => ?_
    rcases List.mem_append.1 ho with ho | ho
    · obtain rfl : o = od := by simpa using ho
      exact hfd
    · exact hfs o ho
  rw [hl]
  refine hown.lies (Nat.le_refl _) fun o ho => ?_
  rcases List.mem_append.1 ho with ho | ho
  · obtain rfl : o = od := by simpa using ho
    exact (hod.keep fun q hq => hgr.cell hq).more hgr.size
  · exact ((hos o ho).keep fun q hq => hgr.cell hq).more hgr.size

section
variable (A : Option Addr) (n c : Nat) (xs : List Int)

set_option maxHeartbeats 1600000 in
theorem rest_nop (f p : Nat) (w : World) (hn : n ≤ 40) (hf : f ≤ 41) (hb : Bs w w.heap.size A n xs) (hp : p < n) (hk : xs.getD p 0 = 1)
    (ih : ∀ (q : Int) (u : World), q = ((p + 1 : Nat) : Int) → Bs u u.heap.size A n xs → Calls Try.prog 67 #[.slice A n c, .int .i64 q] u (GivesO u (parseO f (xs.drop (p + 1))))) :
    Calls Try.prog 67 #[.slice A n c, .int .i64 p] w (GivesO w (parseO (f + 1) (xs.drop p))) := by
  obtain ⟨i0, hi, hz0, hz1, hz2⟩ := info_parts info_opt
  have hne : xs.drop p ≠ [] := fun e => by have := congrArg List.length e; rw [List.length_drop, hb.len] at this; simp at this; omega
  have hX := parseO_next (f := f) hne (by rw [getD_drop]; show xs.getD p 0 ≠ 0; omega)
  rw [take_at n xs p hb.len hp, if_pos hk] at hX
  dsimp only at hX
  rw [if_pos rfl, List.drop_drop] at hX
  have HX := Lib.hid hX
  obtain ⟨b, o, rfl, hbl, hcc⟩ := hb.mem (by omega)
  have c1 := hcc p hp
  rw [hk] at c1
  have hl := Low.alloc w (.cells #[.int .i64 1, .slice none 0 0] 85)
  have HB1 := Lib.hid (hb.below' hl hl.size)
  have HR := Lib.hid (BlkV.new w 85 [.int .i64 1, .slice none 0 0])
  have HL := Lib.hid hl
  have HIH := Lib.hid ih
  have hrl := parseO_len f (xs.drop (p + 1))
  generalize parseO f (xs.drop (p + 1)) = r at *
  clear hcc hb hX hne hk hl ih
  go_enter Try.func67, Try.ntmps67
  go_wp2_with fail
  refine (HIH.out _ _ (by omega) HB1.out).mono ?_
  rintro e w2 ⟨LA, lc, os, rfl, hv, hos, hB2, hfr⟩
  have HFS := Lib.hid (fun o h => (hfr.2 o h).less HL.out.size)
  clear hfr
  obtain ⟨rl, re⟩ := r
  dsimp only at hrl hv hos ⊢
  have hr2 : BlkV w2 85 w.heap.size [.int .i64 1, .slice none 0 0] := HR.out.below hB2 HR.out.lt
  have g0 : w2.cell? ⟨w.heap.size, 0, none⟩ = some (.int .i64 1) := by rw [hr2.cell 0]; rfl
  have g1 : w2.cell? ⟨w.heap.size, 1, none⟩ = some (.slice none 0 0) := by rw [hr2.cell 1]; rfl
  have hBw := Low.trans HL.out hB2
  by_cases he : re = 0
  · subst he
    have hown := OwnO.one w2 85 ⟨1, none, 0, 0, []⟩ (Nat.le_refl _)
    have hsrc := hos.below (Low.alloc w2 (.cells #[.int .i64 1, .slice none 0 0] 85))
    have HOS := Lib.hid hos
    have HV := Lib.hid hv
    have HBW := Lib.hid hBw
    clear hr2 hB2 hBw hos hv
    go_wp2_with (at_builtin; refine wpList_append_os rfl _ _ 23 rfl w2.heap.size 85 i0 Try.underlying23 hi hz0 hz1 hz2 _ 1 1 [⟨1, none, 0, 0, []⟩] rfl hown LA rl.length lc w2.heap.size os rfl hsrc (by omega) (by simp) ?_; intro A2 c2 w3 hown2 hgr hob; refine Hid.out ?_)
    refine Lib.hid ?_
    have hb3 : Below w2.heap.size w2 w3 := (Low.alloc w2 _).grown hgr (by simp) fun x e => by
      have : w2.heap.size = x := by simpa [Value.ownBlock] using e
      omega
    have HOWN := Lib.hid hown2
    clear hown2 hgr hob hown hsrc g0 g1
    go_wp2_with fail
    go_ret2
    rw [HX.out]
    exact GivesO.cons (r := (rl, 0)) rfl rfl HV.out HBW.out hb3 ⟨by simp [i64ok], by simp, Bs.nil _ _ _⟩ HOS.out.all (Od.from_.nul _ _ _ _ _) HFS.out HOWN.out
  · have heb : (re != 0) = true := by simpa using he
    clear hr2 hB2 hos hv g0 g1
    go_wp2_with fail
    go_ret2
    exact GivesO.err re (by rw [HX.out]; unfold joinO; rw [if_neg he]) hBw

set_option maxRecDepth 100000 in
set_option maxHeartbeats 3200000 in
theorem rest_some (f p s : Nat) (w : World) (hn : n ≤ 40) (hc : n ≤ c) (hc2 : c ≤ 9223372036854775807) (hf : f ≤ 41) (hb : Bs w w.heap.size A n xs) (hp : p < n) (hz : xs.getD p 0 ≠ 0) (hk : xs.getD p 0 ≠ 1) (hs : xs.getD (p + 1) 0 = ((s + 2 : Nat) : Int)) (hps : p + (s + 2) ≤ n)
    (ih : ∀ (q : Int) (u : World), q = ((p + (s + 2) : Nat) : Int) → Bs u u.heap.size A n xs → Calls Try.prog 67 #[.slice A n c, .int .i64 q] u (GivesO u (parseO f (xs.drop (p + (s + 2)))))) :
    Calls Try.prog 67 #[.slice A n c, .int .i64 p] w (GivesO w (parseO (f + 1) (xs.drop p))) := by
  obtain ⟨i0, hi, hz0, hz1, hz2⟩ := info_parts info_opt
  obtain ⟨i5, h5, h50, h51, h52⟩ := info_parts info5
  have hne : xs.drop p ≠ [] := fun e => by have := congrArg List.length e; rw [List.length_drop, hb.len] at this; simp at this; omega
  have hX := parseO_next (f := f) hne (by rw [getD_drop]; exact hz)
  have htk : takeO (xs.drop p) = if fitsO (xs.getD p 0) s = false then (zeroB, 0, 5) else ((xs.getD p 0, (xs.drop (p + 2)).take s), s + 2, 0) := by
    rw [take_at n xs p hb.len hp, if_neg hk, if_neg (by omega), if_neg (by omega), if_neg (by omega), hs, show ((s + 2 : Nat) : Int).toNat - 2 = s by omega, show ((s + 2 : Nat) : Int).toNat = s + 2 by omega]
  replace hX : parseO (f + 1) (xs.drop p) = if fitsO (xs.getD p 0) s = false then ([], 5) else joinO [(xs.getD p 0, (xs.drop (p + 2)).take s)] (parseO f (xs.drop (p + (s + 2)))) := by
    rw [hX, htk]
    by_cases h : fitsO (xs.getD p 0) s = false
    · rw [if_pos h, if_pos h, if_neg (by simp)]
    · rw [if_neg h, if_neg h, if_pos rfl, List.drop_drop]
  clear htk
  have HX := Lib.hid hX
  obtain ⟨b, o, rfl, hbl, hcc⟩ := hb.mem (by omega)
  have hn1 := hb.nonneg p
  have hn2 := hb.nonneg (p + 1)
  have c1 := hcc p hp
  have hzb : (xs.getD p 0 == 0) = false := by simpa using hz
  have hkb : (xs.getD p 0 != 1) = true := by simpa using hk
  have h1b : ((p : Int) == (n : Int) - 1) = false := by simp; omega
  have hp1 : p + 1 < n := by omega
  have HDL := Lib.hid (show ((xs.drop (p + 2)).take s).length = s by rw [List.length_take, List.length_drop, hb.len]; omega)
  have HDA := Lib.hid ((hb.all.drop (p + 2)).take s)
  have HBO := Lib.hid hb
  generalize xs.getD p 0 = x0 at *
  have hl := Low.alloc w (.cells #[.int .i64 x0, .slice none 0 0] 85)
  have c2 : (w.alloc (.cells #[.int .i64 x0, .slice none 0 0] 85)).cell? ⟨b, o + (p + 1), none⟩ = some (.int .u8 ((s + 2 : Nat) : Int)) := (Below.cell hl (p := ⟨b, o + (p + 1), none⟩) hbl).trans (by rw [hcc (p + 1) hp1, hs])
  have HR := Lib.hid (BlkV.new w 85 [.int .i64 x0, .slice none 0 0])
  have HL := Lib.hid hl
  have HIH := Lib.hid ih
  have HCC := Lib.hid hcc
  have hrl := parseO_len f (xs.drop (p + (s + 2)))
  generalize parseO f (xs.drop (p + (s + 2))) = r at *
  have hs255 : s + 2 < 256 := by omega
  clear hcc hb hX hne hk hz hl ih hs hn2
  go_enter Try.func67, Try.ntmps67
  go_wp2_with fail
  refine wp_region_planS (fun _ => True) (.rd 0 (.rd 2 (.rd 3 (.rd 4 (.rd 5 (.rd 6 (.rd 7 (.rd 8 (.act 1 (.act 9 (.rd 10 (.act 11 .done))))))))))))
    (by kernel_rfl) (by kernel_rfl) (fun _ _ d _ _ h => by cases d <;> exact h) (by kernel_rfl) trivial ?_
  replace HL := Lib.hid (Below.drew HL.out)
  replace HR : Hid (BlkV (w.alloc (.cells #[.int .i64 x0, .slice none 0 0] 85)).drew 85 w.heap.size [.int .i64 x0, .slice none 0 0]) := HR
  have hsz1 : (w.alloc (.cells #[.int .i64 x0, .slice none 0 0] 85)).drew.heap.size = w.heap.size + 1 := by show (w.alloc _).heap.size = _; simp
  generalize (w.alloc (.cells #[.int .i64 x0, .slice none 0 0] 85)).drew = w2 at *
  clear c1 c2
  have g1 : w2.cell? ⟨w.heap.size, 1, none⟩ = some (.slice none 0 0) := by rw [HR.out.cell 1]; rfl
  have k1 : IntKind.i64.wrap ((p : Int) + 2) = p + 2 := wraps_i64 _ (by omega) (by omega)
  have k2 : IntKind.i64.wrap ((p : Int) + ((s : Int) + 2)) = p + (s + 2) := wraps_i64 _ (by omega) (by omega)
  have m1 : (0 : Int) ≤ p + 2 := by omega
  have m2 : (p : Int) + 2 ≤ p + (s + 2) := by omega
  have m3 : (p : Int) + (s + 2) ≤ c := by omega
  iterate 7 (refine walkS_read (v := _) rfl (by rfl) (by intro y hy; go_simp; try rfl) ?_; simp only [Act.put, List.setIfInBounds_toArray, List.set_cons_zero, List.set_cons_succ])
  have t1 : ((p : Int) + 2).toNat = p + 2 := by omega
  have t2 : ((p : Int) + ((s : Int) + 2)).toNat = p + (s + 2) := by omega
  have t3 : p + (s + 2) - (p + 2) = s := by omega
  obtain ⟨A8, hA8⟩ : ∃ A8 : Option Addr, A8 = if c = p + 2 then some ⟨b, o, none⟩ else some ⟨b, o + (p + 2), none⟩ := ⟨_, rfl⟩
  refine walkS_read (v := .slice A8 s (c - (p + 2))) rfl (by rfl) (by
    intro y hy
    go_simp) ?_
  simp only [Act.put, List.setIfInBounds_toArray, List.set_cons_zero, List.set_cons_succ]
  refine walkS_run (v := .slice none 0 0) (w' := w2) rfl (by rfl) (by go_simp) trivial ?_
  simp only [Act.put, List.setIfInBounds_toArray, List.set_cons_zero, List.set_cons_succ]
  have hsrc : Bs w2 w.heap.size A8 s ((xs.drop (p + 2)).take s) := by
    refine ⟨HDL.out, HDA.out, fun h => ?_⟩
    rw [if_neg (by omega)] at hA8
    refine ⟨b, o + (p + 2), hA8, hbl, fun i hi => ?_⟩
    rw [Nat.add_assoc, HL.out.cell (p := ⟨b, o + (p + 2 + i), none⟩) hbl, HCC.out (p + 2 + i) (by omega)]
    simp [List.getD, hi, List.getElem?_drop]
  refine walkS_act rfl (by rfl) (fun K hK => ?_)
  refine wp_append_bs (.tmp 62) (.tmp 69) 24 rfl w2.heap.size 5 i5 Try.underlying24 h5 h50 h51 h52 none 0 0 [] rfl (OwnB.none_ _ _ _) A8 s (c - (p + 2)) w.heap.size _ rfl hsrc (by omega) (Nat.le_refl _) ?_
  intro A9 c9 w3 hown hgr hob
  refine hK _ _ trivial ?_
  clear hK K k1 k2 m1 m2 m3 t1 t2 t3 hA8 hsrc g1
  simp only [Act.put, List.setIfInBounds_toArray, List.set_cons_zero, List.set_cons_succ, Nat.zero_add, List.nil_append] at hown hgr ⊢
  have hl3 : Low w2 w3 := ⟨hgr.os, hgr.tape, hgr.output, hgr.size, fun k hk => hgr.block k hk (by simp [Value.ownBlock])⟩
  have hr3 : BlkV w3 85 w.heap.size [.int .i64 x0, .slice none 0 0] := HR.out.below hl3 HR.out.lt
  have g0 : w3.cell? ⟨w.heap.size, 0, none⟩ = some (.int .i64 x0) := by rw [hr3.cell 0]; rfl
  have g1 : w3.cell? ⟨w.heap.size, 1, none⟩ = some (.slice none 0 0) := by rw [hr3.cell 1]; rfl
  have f1 := hr3.frozen 1
  refine walkS_read (v := _) rfl (by rfl) (by intro y hy; go_simp; try rfl) ?_
  simp only [Act.put, List.setIfInBounds_toArray, List.set_cons_zero, List.set_cons_succ]
  refine walkS_put (w' := w3.setCell ⟨w.heap.size, 1, none⟩ (.slice A9 s c9)) rfl (by rfl) (by go_simp) trivial ?_
  have hr4 := hr3.set_ 1 (.slice A9 s c9)
  have hb4 : Below w.heap.size w (w3.setCell ⟨w.heap.size, 1, none⟩ (.slice A9 s c9)) := (HL.out.trans (hl3.mono HL.out.size)).setCell (p := ⟨w.heap.size, 1, none⟩) (Nat.le_refl _) _
  have hd4 := hown.far (p := ⟨w.heap.size, 1, none⟩) (by rw [hsz1]; show w.heap.size < w.heap.size + 1; omega) (.slice A9 s c9)
  have hbs4 := hd4.bs (Nat.le_refl _)
  have hd4 := hown.far (p := ⟨w.heap.size, 1, none⟩) (by rw [hsz1]; show w.heap.size < w.heap.size + 1; omega) (.slice A9 s c9)
  generalize w3.setCell ⟨w.heap.size, 1, none⟩ (.slice A9 s c9) = w4 at *
  simp only [walkS, Act.put]
  have j0 : w4.cell? ⟨w.heap.size, 0, none⟩ = some (.int .i64 x0) := by rw [hr4.cell 0]; rfl
  have j1 : w4.cell? ⟨w.heap.size, 1, none⟩ = some (.slice A9 s c9) := by rw [hr4.cell 1]; rfl
  have HFD : Hid (Od.from_ w.heap.size ⟨x0, A9, s, c9, (xs.drop (p + 2)).take s⟩) := Lib.hid fun hs0 => by
    obtain ⟨g, cap, hv, hb, _⟩ := hown.1.form hs0
    have hA : A9 = some ⟨g, 0, none⟩ := by injection hv
    exact ⟨g, 0, hA, by omega⟩
  have HR4 := Lib.hid hr4
  have HB4 := Lib.hid hb4
  have HD4 := Lib.hid hbs4
  have HBX := Lib.hid (HBO.out.below' hb4 hb4.size)
  clear hr4 hb4 hd4 hbs4 hown hgr hob hl3 hr3 g0 g1 f1
  go_wp2_with fail
  refine (rlong_any x0 _).mono ?_
  rintro e w' ⟨rfl, rfl⟩
  have hlr := longR_range x0
  have hX := HX.out
  cases hfit : fitsO x0 s
  · rw [hfit, if_pos rfl] at hX
    have HXX := Lib.hid hX
    obtain ⟨hf1, hf2⟩ : ¬ longR x0 < 0 ∧ ¬ longR x0 = s := by simpa [fitsO] using hfit
    generalize longR x0 = L at *
    have hLb : (L != (s : Int)) = true := by simpa using hf2
    clear hX HX hfit hf2 j0 j1
    go_wp2_with fail
    go_ret2
    exact GivesO.err 5 HXX.out HB4.out
  · rw [hfit, if_neg (by simp)] at hX
    have HXX := Lib.hid hX
    have hf1 : longR x0 < 0 ∨ longR x0 = s := by simpa [fitsO] using hfit
    generalize longR x0 = L at *
    have hg : (L < 0) ∨ (¬ L < 0 ∧ (L != (s : Int)) = false) := by
      by_cases h0 : L < 0
      · exact .inl h0
      · exact .inr ⟨h0, by simp; omega⟩
    clear hX HX hfit hf1
    rcases hg with hg | ⟨hg, hg2⟩
    · go_wp2_with fail
      refine (HIH.out _ _ (by omega) HBX.out).mono ?_
      rintro e w5 ⟨LA, lc, os, rfl, hv, hos, hB5, hfr⟩
      have HFS := Lib.hid (fun o h => (hfr.2 o h).less HB4.out.size)
      clear hfr
      obtain ⟨rl, re⟩ := r
      dsimp only at hrl hv hos ⊢
      have hr5 : BlkV w5 85 w.heap.size [.int .i64 x0, .slice A9 s c9] := HR4.out.below hB5 HR4.out.lt
      have g0 : w5.cell? ⟨w.heap.size, 0, none⟩ = some (.int .i64 x0) := by rw [hr5.cell 0]; rfl
      have g1 : w5.cell? ⟨w.heap.size, 1, none⟩ = some (.slice A9 s c9) := by rw [hr5.cell 1]; rfl
      have hBw := HB4.out.trans (hB5.mono HB4.out.size)
      have hod : Od.ok w5 w5.heap.size ⟨x0, A9, s, c9, (xs.drop (p + 2)).take s⟩ := ⟨by unfold i64ok; dsimp only; omega, by dsimp only; omega, (HD4.out.below' hB5 hB5.size)⟩
      have HOD := Lib.hid hod
      clear j0 j1 hod
      by_cases he : re = 0
      · subst he
        have hown := OwnO.one w5 85 ⟨x0, A9, s, c9, (xs.drop (p + 2)).take s⟩ (Nat.le_refl _)
        have hsrc := hos.below (Low.alloc w5 (.cells #[.int .i64 x0, .slice A9 s c9] 85))
        have HOS := Lib.hid hos
        have HV := Lib.hid hv
        have HBW := Lib.hid hBw
        clear hr5 hB5 hBw hos hv
        go_wp2_with (at_builtin; refine wpList_append_os rfl _ _ 23 rfl w5.heap.size 85 i0 Try.underlying23 hi hz0 hz1 hz2 _ 1 1 [⟨x0, A9, s, c9, (xs.drop (p + 2)).take s⟩] rfl hown LA rl.length lc w5.heap.size os rfl hsrc (by omega) (by simp) ?_; intro A2 c2 w6 hown2 hgr hob; refine Hid.out ?_)
        refine Lib.hid ?_
        have hb3 : Below w5.heap.size w5 w6 := (Low.alloc w5 _).grown hgr (by simp) fun x e => by
          have : w5.heap.size = x := by simpa [Value.ownBlock] using e
          omega
        have HOWN := Lib.hid hown2
        clear hown2 hgr hob hown hsrc g0 g1
        go_wp2_with fail
        go_ret2
        rw [HXX.out]
        exact GivesO.cons (r := (rl, 0)) rfl rfl HV.out HBW.out hb3 HOD.out HOS.out.all HFD.out HFS.out HOWN.out
      · have heb : (re != 0) = true := by simpa using he
        clear hr5 hB5 hos hv g0 g1
        go_wp2_with fail
        go_ret2
        exact GivesO.err re (by rw [HXX.out]; unfold joinO; rw [if_neg he]) hBw
    · go_wp2_with fail
      refine (HIH.out _ _ (by omega) HBX.out).mono ?_
      rintro e w5 ⟨LA, lc, os, rfl, hv, hos, hB5, hfr⟩
      have HFS := Lib.hid (fun o h => (hfr.2 o h).less HB4.out.size)
      clear hfr
      obtain ⟨rl, re⟩ := r
      dsimp only at hrl hv hos ⊢
      have hr5 : BlkV w5 85 w.heap.size [.int .i64 x0, .slice A9 s c9] := HR4.out.below hB5 HR4.out.lt
      have g0 : w5.cell? ⟨w.heap.size, 0, none⟩ = some (.int .i64 x0) := by rw [hr5.cell 0]; rfl
      have g1 : w5.cell? ⟨w.heap.size, 1, none⟩ = some (.slice A9 s c9) := by rw [hr5.cell 1]; rfl
      have hBw := HB4.out.trans (hB5.mono HB4.out.size)
      have hod : Od.ok w5 w5.heap.size ⟨x0, A9, s, c9, (xs.drop (p + 2)).take s⟩ := ⟨by unfold i64ok; dsimp only; omega, by dsimp only; omega, (HD4.out.below' hB5 hB5.size)⟩
      have HOD := Lib.hid hod
      clear j0 j1 hod
      by_cases he : re = 0
      · subst he
        have hown := OwnO.one w5 85 ⟨x0, A9, s, c9, (xs.drop (p + 2)).take s⟩ (Nat.le_refl _)
        have hsrc := hos.below (Low.alloc w5 (.cells #[.int .i64 x0, .slice A9 s c9] 85))
        have HOS := Lib.hid hos
        have HV := Lib.hid hv
        have HBW := Lib.hid hBw
        clear hr5 hB5 hBw hos hv
        go_wp2_with (at_builtin; refine wpList_append_os rfl _ _ 23 rfl w5.heap.size 85 i0 Try.underlying23 hi hz0 hz1 hz2 _ 1 1 [⟨x0, A9, s, c9, (xs.drop (p + 2)).take s⟩] rfl hown LA rl.length lc w5.heap.size os rfl hsrc (by omega) (by simp) ?_; intro A2 c2 w6 hown2 hgr hob; refine Hid.out ?_)
        refine Lib.hid ?_
        have hb3 : Below w5.heap.size w5 w6 := (Low.alloc w5 _).grown hgr (by simp) fun x e => by
          have : w5.heap.size = x := by simpa [Value.ownBlock] using e
          omega
        have HOWN := Lib.hid hown2
        clear hown2 hgr hob hown hsrc g0 g1
        go_wp2_with fail
        go_ret2
        rw [HXX.out]
        exact GivesO.cons (r := (rl, 0)) rfl rfl HV.out HBW.out hb3 HOD.out HOS.out.all HFD.out HFS.out HOWN.out
      · have heb : (re != 0) = true := by simpa using he
        clear hr5 hB5 hos hv g0 g1
        go_wp2_with fail
        go_ret2
        exact GivesO.err re (by rw [HXX.out]; unfold joinO; rw [if_neg he]) hBw
end

theorem rest_any (A : Option Addr) (n c : Nat) (xs : List Int) (hn : n ≤ 40) (hc : n ≤ c) (hc2 : c ≤ 9223372036854775807) : ∀ (f p : Nat) (q : Int) (w : World), f ≤ 42 → q = p → p ≤ n → n < p + f → Bs w w.heap.size A n xs →
    Calls Try.prog 67 #[.slice A n c, .int .i64 q] w (GivesO w (parseO f (xs.drop p)))
  | 0, p, q, w, _, hq, hp, hf, hb => by omega
  | f + 1, p, q, w, hf42, hq, hp, hf, hb => by
    subst hq
    have hn1 := hb.nonneg p
    have hn2 := hb.nonneg (p + 1)
    by_cases hpn : n ≤ p
    · exact rest_end A n c xs w (f + 1) p (by omega) hb hpn (by omega)
    · by_cases hz : xs.getD p 0 = 0
      · exact rest_zero A n c xs w f p (by omega) hb (by omega) hz
      · by_cases hk : xs.getD p 0 = 1
        · exact rest_nop A n c xs f p w hn (by omega) hb (by omega) hk fun q u hq hu => rest_any A n c xs hn hc hc2 f (p + 1) q u (by omega) hq (by omega) (by omega) hu
        · by_cases h : p = n - 1 ∨ xs.getD (p + 1) 0 < 2 ∨ (n : Int) - p < xs.getD (p + 1) 0
          · exact rest_err A n c xs w f p (by omega) hb (by omega) hz hk h
          · obtain ⟨s, hs⟩ : ∃ s : Nat, xs.getD (p + 1) 0 = ((s + 2 : Nat) : Int) := ⟨(xs.getD (p + 1) 0).toNat - 2, by omega⟩
            exact rest_some A n c xs f p s w hn hc hc2 (by omega) hb (by omega) hz hk hs (by omega) fun q u hq hu => rest_any A n c xs hn hc hc2 f (p + (s + 2)) q u (by omega) hq (by omega) (by omega) hu

set_option maxHeartbeats 800000 in
theorem trparse_any (A : Option Addr) (n c : Nat) (xs : List Int) (w : World) (hn : n ≤ 140737488355328) (hc : n ≤ c) (hc2 : c ≤ 9223372036854775807) (hb : Bs w w.heap.size A n xs) :
    Calls Try.prog 36 #[.slice A n c] w (GivesO w (parseL xs)) := by
  by_cases h40 : 40 < n
  · have HX := Lib.hid (show parseL xs = ([], 4) by unfold parseL; rw [if_pos (by rw [hb.len]; exact h40)])
    clear hb
    go_enter Try.func36, Try.ntmps36
    go_wp2_with fail
    go_ret2
    exact GivesO.err 4 HX.out (Below.refl _ _)
  · have HX := Lib.hid (show parseL xs = parseO 41 (xs.drop 0) by unfold parseL; rw [if_neg (by rw [hb.len]; exact h40)]; rfl)
    have HB := Lib.hid hb
    clear hb
    go_enter Try.func36, Try.ntmps36
    go_wp2_with fail
    refine (rest_any A n c xs (by omega) hc hc2 41 0 0 w (by omega) rfl (by omega) (by omega) HB.out).mono ?_
    rintro e w1 ⟨LA, lc, os, rfl, hv, hos, hB1, hfr⟩
    obtain ⟨r, hr⟩ : ∃ r, r = parseO 41 (xs.drop 0) := ⟨_, rfl⟩
    rw [← hr] at hv hos hfr ⊢
    have HFR := Lib.hid hfr
    clear hfr
    have HRR := Lib.hid (HX.out.trans hr.symm)
    clear hr
    have HV := Lib.hid hv
    have HOS := Lib.hid hos
    clear hv hos
    go_wp2_with fail
    go_ret2
    rw [HRR.out]
    exact ⟨LA, lc, os, rfl, HV.out, HOS.out, hB1, HFR.out⟩
end Go.Proofs.Ytkbgfddicpnbmaa
