/- What srh.Parse answers: the routing header that bytes begin with. Condition: at most 2^47 - 4096 bytes. -/
import Derived.Test.YtnfiijbnfmcpjaaSrH
import Derived.Test.YtnfiijbnfmcpjaaTlF
import Derived.Test.YtnfiijbnfmcpjaaTpI
import Derived.Test.YtnfiijbnfmcpjaaReg3
namespace Go.Proofs.Ytnfiijbnfmcpjaa
open Go.RowKit
set_option linter.unusedVariables false

/-- a header, how long it is, and why not, are handed back -/
def GivesSr (w : World) (xs : List Int) (e : Ending) (w' : World) : Prop :=
  ∃ s : Sr, e = .returned (.tuple #[srV s, .int .i64 (lenR xs), .int .i64 (errR xs)]) ∧ s.v = parseR xs ∧ s.ok w' w'.heap.size ∧ Below w.heap.size w w'
theorem GivesSr.no {w w' : World} {xs : List Int} {k : Int} (h : errR xs = k) (hk : k ≠ 0) (hB : Below w.heap.size w w') : GivesSr w xs (.returned (.tuple #[srV zeroSr, .int .i64 0, .int .i64 k])) w' :=
  ⟨zeroSr, by unfold lenR; rw [if_neg (by omega), h]; rfl, by unfold parseR; rw [if_neg (by omega)]; rfl, zeroSr_ok _ _, hB⟩
theorem GivesSr.yes {w w' : World} {xs : List Int} {s : Sr} {l : Int} (h : errR xs = 0) (hl : (wideR xs : Int) = l) (hv : s.v = saysR xs) (ho : s.ok w' w'.heap.size) (hB : Below w.heap.size w w') : GivesSr w xs (.returned (.tuple #[srV s, .int .i64 l, .int .i64 0])) w' :=
  ⟨s, by unfold lenR; rw [if_pos h, hl, h], by unfold parseR; rw [if_pos h]; exact hv, ho, hB⟩
theorem ret_sr {fn : Func} {p q r : Tmp} {R : Ending → World → Prop} {tmps : Array Value} {df : List Deferred} {w : World} {g : Nat} {s : Sr} {l er : Int} (hfn : fn.results = #[.cell p 25, .tmp q, .tmp r]) (hp : tmps.getD p undef = .pointer (some ⟨g, 0, none⟩)) (hq : tmps.getD q undef = .int .i64 l) (hr : tmps.getD r undef = .int .i64 er)
    (hb : BlkR w g s) (hR : R (.returned (.tuple #[srV s, .int .i64 l, .int .i64 er])) w) (hd : df = []) : bodyPost Try.prog fn R .ret ⟨tmps, df⟩ w :=
  bodyPost_ret (results_cell_tmp2 hfn tmps w g _ _ _ _ _ _ hp hq hr hb Try.underlying25 rfl (by rw [sr_size]; rfl)) hd hR
theorem partsR_len (xs : List Int) : (partsR xs).1.length ≤ (xs.take (wideR xs)).length := by
  unfold partsR parseTL
  exact Nat.le_trans (parseT_len _ _) (by rw [List.length_drop]; omega)

theorem OFrom.lessR {lo lo' n : Nat} {A : Option Addr} {os : List Od} (h : OFrom lo A n os) (hl : lo' ≤ lo) : OFrom lo' A n os :=
  ⟨fun hn => by
    obtain ⟨b, p, e, hb⟩ := h.1 hn
    exact ⟨b, p, e, by omega⟩, fun o ho => (h.2 o ho).less hl⟩
theorem num2_rangeR {xs : List Int} (h : AllB xs) (p : Nat) : 0 ≤ num2 xs p ∧ num2 xs p < 65536 := by
  have h1 := h.getD p
  have h2 := h.getD (p + 1)
  unfold num2
  omega
theorem tags_back (k fr : Nat) (xs : List Int) (h : fr = 8 + 16 * k) : chunksR k ((xs.take fr).drop 8) = chunksR k (xs.drop 8) := by
  rw [List.drop_take, show fr - 8 = k * 16 by omega, chunksR_take]

set_option maxRecDepth 100000 in
set_option maxHeartbeats 3200000 in
theorem srparse_any (A : Option Addr) (n c : Nat) (xs : List Int) (w : World) (hn : n ≤ 140737488355328) (hc : n ≤ c) (hc2 : c ≤ 9223372036854775807) (hb : Bs w w.heap.size A n xs) :
    Calls Try.prog 13 #[.slice A n c] w (GivesSr w xs) := by
  go_enter Try.func13, Try.ntmps13
  go_wp2_with ((with_reducible refine wpList_alloc_sr rfl rfl ?_); intro w1 HZ hL hz1; refine Hid.out ?_)
  refine Lib.hid ?_
  replace HZ := Lib.hid HZ
  have hb1 := hb.below' hL hL.size
  have HB0 := Lib.hid hb
  clear hz1 hb
  go_wp2_with fail
  refine (ahead10_any A n c xs w1 hn hb1).mono ?_
  rintro e w2 ⟨rfl, rfl⟩
  by_cases ha : aheadR xs = 0
  · obtain ⟨a1, a2, a3, a4, a5, a6⟩ := aheadR_zero ha
    have hlen := hb1.len
    have hwl := wideR_le hb1.all
    have HFR := Lib.hid (show fromR xs = 8 + 16 * manyR xs from rfl)
    have HER := Lib.hid (show errR xs = (partsR xs).2 by unfold errR; rw [if_pos ha])
    rw [show aheadF xs = fromR xs by unfold aheadF; rw [if_pos ha], show aheadL xs = wideR xs by unfold aheadL; rw [if_pos ha], ha]
    have HPL := Lib.hid (partsR_len xs)
    have HPD := Lib.hid (show partsR xs = parseTL ((xs.take (wideR xs)).drop (fromR xs)) from rfl)
    have HSY := Lib.hid (show saysR xs = ⟨xs.getD 0 0, xs.getD 3 0, xs.getD 5 0, num2 xs 6, chunksR (manyR xs) (xs.drop 8), (partsR xs).1⟩ from rfl)
    obtain ⟨wd, hwd⟩ : ∃ wd, wd = wideR xs := ⟨_, rfl⟩
    obtain ⟨fr, hfr⟩ : ∃ fr, fr = fromR xs := ⟨_, rfl⟩
    obtain ⟨k, hk⟩ : ∃ k, k = manyR xs := ⟨_, rfl⟩
    rw [← hwd] at a2 a5 hwl HPL HPD ⊢
    rw [← hfr] at a5 HFR HPD ⊢
    rw [← hk] at a4 a6 HFR HSY
    have HWD := Lib.hid hwd
    clear ha hwd hfr hk a6
    obtain ⟨b, o, rfl, hbl, hcc⟩ := HB0.out.mem (by omega)
    obtain ⟨A2, hs2, hA2⟩ := slc_both b o n c fr wd fr wd hc rfl rfl a5 (by omega)
    have hb2 := hb1.cut a5 (by omega : wd ≤ n) hA2
    have HB2 := Lib.hid hb2
    have HS2 := Lib.hid hs2
    have HCC := Lib.hid hcc
    have hlt0 := HZ.out.lt
    clear hb2 hs2 hA2 hcc
    go_wp2_with (refine slc_wp rfl _ (.tmp 22) (some (.tmp 23)) (some (.tmp 24)) none rfl _ (HS2.out w2) ?_; refine Hid.out ?_)
    refine Lib.hid ?_
    go_wp2_with fail
    refine (tlparse_any A2 (wd - fr) (c - fr) ((xs.take wd).drop fr) w2 (by omega) (by omega) (by omega) HB2.out).mono ?_
    rintro e w3 ⟨A3, r3, os, rfl, hv3, ho3, hB3, hf3⟩
    rw [← HPD.out] at hv3 ho3 hf3 ⊢
    replace HZ := Lib.hid (HZ.out.below hB3 HZ.out.lt)
    have HF3 := Lib.hid hf3
    have HO3 := Lib.hid ho3
    have HV3 := Lib.hid hv3
    have hlt := HZ.out.lt
    replace hL := hL.trans hB3
    obtain ⟨er, her⟩ : ∃ er, er = (partsR xs).2 := ⟨_, rfl⟩
    rw [← her] at HER ⊢
    clear ho3 hf3 hv3 HB2 HS2 her
    by_cases he : er = 0
    · subst he
      obtain ⟨tn, htn⟩ : ∃ tn, tn = (partsR xs).1.length := ⟨_, rfl⟩
      rw [← htn] at HO3 HF3 HPL ⊢
      have htn2 : tn ≤ 2048 := by
        have := HPL.out
        rw [List.length_take] at this
        omega
      clear htn
      go_wp2_with fail
      refine (u16_yes (some ⟨b, o, none⟩) n c 6 6 xs w3 (by omega) (HB0.out.below' hL hL.size) rfl (by omega)).mono ?_
      rintro e w4 ⟨rfl, kk, rfl⟩
      replace HZ : Hid (BlkR (w3.drewN kk) w.heap.size zeroSr) := HZ
      replace HO3 : Hid (Os (w3.drewN kk) (w3.drewN kk).heap.size A3 tn os) := Lib.hid (HO3.out.keep fun _ _ => rfl)
      replace hL := below_drewN hL kk
      generalize w3.drewN kk = w5 at *
      have htg := num2_rangeR HB0.out.all 6
      generalize num2 xs 6 = tg at *
      go_wp2_with fail
      refine wp_region_planS (fun y => Below w.heap.size w y) (.rd 0 (.rd 1 (.rd 2 (.rd 3 (.rd 4 (.rd 5 (.rd 6 (.rd 7 (.rd 8 (.rd 9 (.rd 10 (.rd 11 (.rd 12 (.rd 13 (.rd 14 (.rd 15 (.rd 17 (.rd 19 (.act 16 (.rd 18 (.act 20 (.rd 21 (.rd 22 (.done))))))))))))))))))))))))
        (by kernel_rfl) (by kernel_rfl) (fun _ _ d _ _ h => by cases d <;> exact h) (by kernel_rfl) (Below.drew hL) ?_
      replace HZ : Hid (BlkR w5.drew w.heap.size zeroSr) := HZ
      replace HO3 : Hid (Os w5.drew w5.drew.heap.size A3 tn os) := Lib.hid (HO3.out.keep fun _ _ => rfl)
      replace hL := Below.drew hL
      generalize w5.drew = w6 at *
      have c0 : w.cell? ⟨b, o, none⟩ = some (.int .u8 (xs.getD 0 0)) := HCC.out 0 (by omega)
      have c3 := HCC.out 3 (by omega)
      have c5 := HCC.out 5 (by omega)
      obtain ⟨y0, y0'⟩ := HB0.out.nonneg 0
      obtain ⟨y3, y3'⟩ := HB0.out.nonneg 3
      obtain ⟨y5, y5'⟩ := HB0.out.nonneg 5
      generalize xs.getD 0 0 = x0 at *
      generalize xs.getD 3 0 = x3 at *
      generalize xs.getD 5 0 = x5 at *
      have hw0 : IntKind.i64.wrap x0 = x0 := wraps_i64 _ y0 (by omega)
      have hw3 : IntKind.i64.wrap x3 = x3 := wraps_i64 _ y3 (by omega)
      have hw5 : IntKind.i64.wrap x5 = x5 := wraps_i64 _ y5 (by omega)
      have n0 : 0 < n := by omega
      have n3 : (3 : Int) < n := by omega
      have n5 : (5 : Int) < n := by omega
      have hfr := HFR.out
      obtain ⟨A4, hs4, hA4⟩ := slc_both b o n c 8 fr 8 fr hc rfl rfl (by omega) (by omega)
      have HB4 := Lib.hid (HB0.out.cut (by omega : 8 ≤ fr) (by omega : fr ≤ n) hA4)
      have HS4 := Lib.hid hs4
      clear hs4 hA4 hfr
      iterate 18 (refine walkS_read (v := _) rfl (by rfl) (by intro y hy; have e0 := (hy.cell (p := ⟨b, o, none⟩) hbl).trans c0; have e3 := (hy.cell (p := ⟨b, o + 3, none⟩) hbl).trans c3; have e5 := (hy.cell (p := ⟨b, o + 5, none⟩) hbl).trans c5; first | exact slc_exec (HS4.out y) | (go_simp; try rfl)) ?_; simp only [Act.put, List.setIfInBounds_toArray, List.set_cons_zero, List.set_cons_succ])
      clear c0 c3 c5 n0 n3 n5 hw0 hw3 hw5
      have HTB := Lib.hid (tags_back k fr xs HFR.out)
      refine walkS_act rfl (by rfl) (fun K hK => ?_)
      go_simp
      refine (segments_any A4 (fr - 8) (c - 8) k ((xs.take fr).drop 8) w6 a4.2 (by have := HFR.out; omega) (by omega) (by omega) (HB4.out.below' hL hL.size)).mono ?_
      rintro e w7 ⟨A5, q5, rfl, hown5, hB7⟩
      go_simp
      rw [HTB.out] at hown5 ⊢
      have hcl := chunksR_len k (xs.drop 8)
      rw [hcl] at hown5 ⊢
      have hL7 : Below w.heap.size w w7 := hL.trans (hB7.mono hL.size)
      refine hK _ _ hL7 ?_
      clear hK K
      have hz6 : w.heap.size < w6.heap.size := HZ.out.lt
      have HF5 := Lib.hid (hown5.from_)
      have HA5 := Lib.hid (hown5.lies (Nat.le_refl _))
      replace HZ := Lib.hid (HZ.out.below hB7 HZ.out.lt)
      replace HO3 := Lib.hid (HO3.out.below' hB7 hB7.size)
      obtain ⟨cs, hcs⟩ : ∃ cs, cs = chunksR k (xs.drop 8) := ⟨_, rfl⟩
      rw [← hcs] at HA5 HSY
      clear hown5 hcl hL hB7 hcs HTB HB4 HS4
      refine walkS_read (v := _) rfl (by rfl) (by intro y hy; go_simp; try rfl) ?_
      simp only [Act.put, List.setIfInBounds_toArray, List.set_cons_zero, List.set_cons_succ]
      obtain ⟨s, hs⟩ : ∃ s : Sr, s = ⟨x0, x3, x5, tg, A5, k, q5, cs, A3, tn, r3, os⟩ := ⟨_, rfl⟩
      have HSV := Lib.hid (show Value.agg (srC s).toArray = .agg #[.int .i64 x0, .int .i64 x3, .int .i64 x5, .int .i64 tg, .slice A5 k q5, .slice A3 tn r3] by rw [hs]; rfl)
      have HVV := Lib.hid (show s.v = saysR xs by rw [hs, HSY.out, ← HV3.out]; rfl)
      have HOK := Lib.hid (show s.ok w7 w7.heap.size by
        rw [hs]
        exact ⟨by unfold i64ok; show _ ∧ _; dsimp only; omega, by unfold i64ok; dsimp only; omega, by unfold i64ok; dsimp only; omega, by unfold i64ok; dsimp only; omega, by dsimp only; omega, HA5.out, by dsimp only; omega, HO3.out⟩)
      have HFS := Lib.hid (show s.from_ (w.heap.size + 1) by
        rw [hs]
        exact ⟨HF5.out.less (by omega), HF3.out.lessR (by omega)⟩)
      clear hs HA5 HO3 HF5 HF3 HV3
      refine walkS_act rfl (by rfl) (fun K hK => ?_)
      refine wp_store_row 25 (.tmp 2) (.tmp 56) rfl w.heap.size (srC s).toArray rfl HSV.out.symm 25 _ HZ.out (by rw [sr_size]; rfl) rfl (srC_one s) ?_
      refine hK _ _ (hL7.trans (low_setRow _ _ _ (Nat.le_refl _))) ?_
      clear hK K
      have HG : Hid (BlkR (w7.setRow w.heap.size (srC s).toArray) w.heap.size s) := Lib.hid (BlkV.setRow HZ.out _)
      have hL8 := hL7.trans (low_setRow w7 w.heap.size (srC s).toArray (Nat.le_refl _))
      have HOK8 := Lib.hid ((HOK.out.upper (w' := w7.setRow w.heap.size (srC s).toArray) HFS.out (fun p hp _ => World.cell?_of_block (by
        have : p.block ≠ w.heap.size := by omega
        simp [World.setRow, Array.getElem?_modify, Ne.symm this]))).more (by simp : w7.heap.size ≤ (w7.setRow w.heap.size (srC s).toArray).heap.size))
      clear HZ HOK HFS hL7 HSV
      generalize w7.setRow w.heap.size (srC s).toArray = w8 at *
      simp only [Act.put]
      iterate 2 (refine walkS_read (v := _) rfl (by rfl) (by intro y hy; go_simp; try rfl) ?_; simp only [Act.put, List.setIfInBounds_toArray, List.set_cons_zero, List.set_cons_succ])
      unfold walkS
      go_wp2
      exact ret_sr Try.results13 rfl rfl rfl HG.out (GivesSr.yes HER.out (by rw [HWD.out]) HVV.out HOK8.out hL8) rfl
    · have heb : (er != 0) = true := by simpa using he
      go_wp2_with (refine wpList_store_sr rfl (.tmp 2) (.tmp 31) rfl w.heap.size rfl zeroSr rfl zeroSr HZ.out ?_; intro w4 HG hb4 ho4 hz4; refine Hid.out ?_)
      refine Lib.hid ?_
      replace HG := Lib.hid HG
      go_wp2_with fail
      exact ret_sr Try.results13 rfl rfl rfl HG.out (GivesSr.no HER.out he (Below.trans hL hb4)) rfl
  · have HE := Lib.hid (show errR xs = aheadR xs by unfold errR; rw [if_neg ha])
    rw [(aheadFL_err rfl ha).1, (aheadFL_err rfl ha).2]
    obtain ⟨x, hx⟩ : ∃ x, x = aheadR xs := ⟨_, rfl⟩
    rw [← hx] at ha HE ⊢
    have hxb : (x != 0) = true := by simpa using ha
    clear hx
    go_wp2_with (refine wpList_store_sr rfl (.tmp 2) (.tmp 19) rfl w.heap.size rfl zeroSr rfl zeroSr HZ.out ?_; intro w4 HG hb4 ho4 hz4; refine Hid.out ?_)
    refine Lib.hid ?_
    replace HG := Lib.hid HG
    go_wp2_with fail
    exact ret_sr Try.results13 rfl rfl rfl HG.out (GivesSr.no HE.out ha (Below.trans hL hb4)) rfl
end Go.Proofs.Ytnfiijbnfmcpjaa
