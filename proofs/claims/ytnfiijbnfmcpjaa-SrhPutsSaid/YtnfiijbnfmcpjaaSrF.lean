/- What laid.bytes, srh.Put and Size answer: the bytes of a routing header. Condition: at most 2^47 segments and parts. -/
import Derived.Test.YtnfiijbnfmcpjaaSrE
import Derived.Test.YtnfiijbnfmcpjaaReg3
namespace Go.Proofs.Ytnfiijbnfmcpjaa
open Go.RowKit
set_option linter.unusedVariables false

/-- bytes of the call's own are handed back -/
def GivesFB (w : World) (ys : List Int) (e : Ending) (w' : World) : Prop :=
  ∃ A c, e = .returned (.slice A ys.length c) ∧ OwnB 5 w' w.heap.size A ys.length c ys ∧ Below w.heap.size w w'
theorem GivesFB.of {w w' : World} {ys zs : List Int} {A : Option Addr} {n c : Nat} (hy : ys = zs) (h : OwnB 5 w' w.heap.size A n c zs) (hB : Below w.heap.size w w') : GivesFB w ys (.returned (.slice A n c)) w' := by
  subst hy
  have hl := h.len
  subst hl
  exact ⟨A, c, rfl, h, hB⟩
theorem OwnB.lessR {t : TypeId} {w : World} {base base' n c : Nat} {A : Option Addr} {ys : List Int} (h : OwnB t w base A n c ys) (hb : base' ≤ base) : OwnB t w base' A n c ys := by
  refine ⟨⟨h.1.1, ?_⟩, h.2⟩
  rcases h.1.2 with e | ⟨g, cap, cur, e, hbg, hg, r⟩
  · exact .inl e
  · exact .inr ⟨g, cap, cur, e, by omega, hg, r⟩
theorem headR_wrap {x : Rb} (h : canR x = 0) : IntKind.u8.wrap x.nx = x.nx ∧ IntKind.u8.wrap x.le = x.le ∧ IntKind.u8.wrap x.fl = x.fl ∧ IntKind.u8.wrap ((x.sg.length : Int) - 1) = (x.sg.length : Int) - 1 ∧ IntKind.u8.wrap (((sizeR x : Nat) : Int) / 8 - 1) = ((sizeR x : Nat) : Int) / 8 - 1 := by
  have hs := sizeR_bounds h
  obtain ⟨h1, h2, h3, h4⟩ := canR_zero h
  obtain ⟨b1, b2, b3, b4⟩ := fitR_spec h1
  have hw : ∀ k : Int, 0 ≤ k → k < 256 → IntKind.u8.wrap k = k := fun k h0 h1 => by simp [IntKind.wrap, IntKind.bits, IntKind.signed]; omega
  exact ⟨hw _ (by omega) (by omega), hw _ (by omega) (by omega), hw _ (by omega) (by omega), hw _ (by omega) (by omega), hw _ (by omega) (by omega)⟩

set_option maxRecDepth 100000 in
set_option maxHeartbeats 3200000 in
theorem lbytes_any (s : Sr) (pA : Option Addr) (pn pc : Nat) (w : World) (hs : s.ok w w.heap.size) (hp : Bs w w.heap.size pA pn (putT s.v.tl)) (hcan : canR s.v = 0) :
    Calls Try.prog 19 #[laidV s pA pn pc] w (GivesFB w (flatR s.v)) := by
  unfold laidV
  obtain ⟨i0, hi, hz0, hz1, hz2⟩ := info_parts info5
  have HI := Lib.hid (And.intro hi (And.intro hz0 (And.intro hz1 hz2)))
  clear hi hz0 hz1 hz2
  obtain ⟨hcf, hcg, hcl, hct⟩ := canR_zero hcan
  have hq := putT_len_le s.v.tl
  have hsl : s.v.sg.length = s.gm := hs.sg.len
  have hpl := hp.len
  have hg10 : s.gm ≤ 10 := by omega
  have hg1 : 1 ≤ s.gm := by omega
  obtain ⟨k1, k2, k3, k4, k5⟩ := headR_wrap hcan
  rw [hsl] at k4
  have hzz : sizeR s.v = 8 + 16 * s.gm + pn := by unfold sizeR; rw [hsl, hpl]
  obtain ⟨z, hz⟩ : ∃ z : Nat, z = 8 + 16 * s.gm + pn := ⟨_, rfl⟩
  rw [hzz, ← hz] at k5
  have hzb : z ≤ 424 := by omega
  have hz8 : (24 : Int) ≤ z := by omega
  replace k1 : IntKind.u8.wrap s.nx = s.nx := k1
  replace k2 : IntKind.u8.wrap s.le = s.le := k2
  replace k3 : IntKind.u8.wrap s.fl = s.fl := k3
  have hpn : pn ≤ 256 := by omega
  have HHA := Lib.hid (headR_all hcan)
  have HH := Lib.hid (show headR s.v = [s.nx, (z : Int) / 8 - 1, 4, s.le, (s.gm : Int) - 1, s.fl] ++ two s.tg by unfold headR; rw [hzz, hsl, hz]; rfl)
  have HF := Lib.hid (show flatR s.v = headR s.v ++ s.sg.flatten ++ putT s.v.tl from rfl)
  have hall6 : AllB [s.nx, (z : Int) / 8 - 1, 4, s.le, (s.gm : Int) - 1, s.fl] := fun x hx => HHA.out x (by rw [HH.out]; exact List.mem_append_left _ hx)
  have HS := Lib.hid hs
  have HP := Lib.hid hp
  have H6 := Lib.hid hall6
  have HZZ := Lib.hid hz
  clear hz
  clear hcan hcf hcg hcl hct hq hsl hpl hzz HHA hs hp hall6
  go_enter Try.func19, Try.ntmps19
  go_wp2_with ((with_reducible refine wpList_box_v rfl 44 (.tmp 0) rfl (laidC s pA pn pc) rfl ?_); intro w1 HB hL hz1; refine Hid.out ?_)
  refine Lib.hid ?_
  replace HB : Hid (BlkLd w1 w.heap.size s pA pn pc) := Lib.hid HB
  have HZ1 := Lib.hid hz1
  clear hz1
  go_wp2_with fail
  refine wp_region_plan (.rd 0 (.rd 1 (.rd 2 (.rd 3 (.rd 4 (.rd 9 (.rd 10 (.rd 11 (.rd 12 (.rd 13 (.rd 14 (.rd 15 (.rd 16 (.rd 17 (.rd 18 (.rd 19 (.rd 20 (.rd 21 (.rd 22 (.act 5 (.rd 6 (.rd 7 (.rd 8 (.act 23 (.rd 24 (.done)))))))))))))))))))))))))) (by kernel_rfl) (by kernel_rfl) (fun _ _ d _ _ h => by cases d <;> exact h) (by kernel_rfl) ?_
  replace hL := hL.trans (Below.drew (Below.refl w1.heap.size w1))
  replace HZ1 : Hid (w1.drew.heap.size = w.heap.size + 1) := HZ1
  replace HB : Hid (BlkLd w1.drew w.heap.size s pA pn pc) := HB
  generalize w1.drew = w2 at *
  obtain ⟨c0, c1, c2, c3, c4, c5, c6⟩ := BlkLd.cells HB.out
  have hlt := HB.out.lt
  clear c5 c6 c3
  have v1 : IntKind.i64.wrap ((z : Int) / 8) = (z : Int) / 8 := wraps_i64 _ (by omega) (by omega)
  have v2 : IntKind.i64.wrap ((z : Int) / 8 - 1) = (z : Int) / 8 - 1 := wraps_i64 _ (by omega) (by omega)
  have v3 : IntKind.i64.wrap ((s.gm : Int) - 1) = (s.gm : Int) - 1 := wraps_i64 _ (by omega) (by omega)
  iterate 19 (refine walkP_read (v := _) rfl (by rfl) (by
    intro y hy
    have e0 := (hy.cell (p := ⟨w.heap.size, 0, none⟩) hlt).trans c0; have e1 := (hy.cell (p := ⟨w.heap.size, 1, none⟩) hlt).trans c1; have e2 := (hy.cell (p := ⟨w.heap.size, 2, none⟩) hlt).trans c2; have e4 := (hy.cell (p := ⟨w.heap.size, 4, none⟩) hlt).trans c4
    first | exact exec_load_laid rfl (HB.out.below hy hlt) | (go_simp; try rfl)) ?_; simp only [Act.put, List.setIfInBounds_toArray, List.set_cons_zero, List.set_cons_succ])
  clear c0 c1 c2 c4
  refine walkP_act rfl (by rfl) (fun K hK => ?_)
  go_simp
  refine (lsize_any s pA pn pc w2 HS.out.gm (by omega) z HZZ.out).mono ?_
  rintro e w3 ⟨rfl, hl⟩
  go_simp
  refine hK _ _ hl ?_
  clear hK K
  replace hl : Low w2 w3 := hl
  replace HB := Lib.hid (HB.out.below hl HB.out.lt)
  replace hL := hL.trans hl
  have hz3 : w.heap.size + 1 ≤ w3.heap.size := by have := hl.size; have := HZ1.out; omega
  clear hl hlt HZ1
  iterate 3 (refine walkP_read (v := _) rfl (by rfl) (by intro y hy; go_simp; try rfl) ?_; simp only [Act.put, List.setIfInBounds_toArray, List.set_cons_zero, List.set_cons_succ])
  refine walkP_act rfl (by rfl) (fun K hK => ?_)
  go_simp
  have hla := Low.alloc w3 (.cells #[.int .u8 s.nx, .int .u8 ((z : Int) / 8 - 1), .int .u8 4, .int .u8 s.le, .int .u8 ((s.gm : Int) - 1), .int .u8 s.fl] 5)
  refine hK _ _ hla ?_
  clear hK K k1 k2 k3 k4 k5 v1 v2 v3
  have hka : Blk (w3.alloc (.cells #[.int .u8 s.nx, .int .u8 ((z : Int) / 8 - 1), .int .u8 4, .int .u8 s.le, .int .u8 ((s.gm : Int) - 1), .int .u8 s.fl] 5)) 5 w3.heap.size [s.nx, (z : Int) / 8 - 1, 4, s.le, (s.gm : Int) - 1, s.fl] := Blk.new w3 5 [s.nx, (z : Int) / 8 - 1, 4, s.le, (s.gm : Int) - 1, s.fl]
  have hba := hka.bs (n := 6) H6.out hka.lt rfl
  replace HB := Lib.hid (HB.out.below hla HB.out.lt)
  replace hL := Low.trans hL hla
  have hz4 := Nat.le_trans hz3 hla.size
  obtain ⟨gA, hgA⟩ : ∃ g, g = w3.heap.size := ⟨_, rfl⟩
  rw [← hgA] at hba ⊢
  clear hla hka hgA hz3
  generalize w3.alloc (.cells #[.int .u8 s.nx, .int .u8 ((z : Int) / 8 - 1), .int .u8 4, .int .u8 s.le, .int .u8 ((s.gm : Int) - 1), .int .u8 s.fl] 5) = w4 at *
  iterate 1 (refine walkP_read (v := _) rfl (by rfl) (by intro y hy; go_simp; try rfl) ?_; simp only [Act.put, List.setIfInBounds_toArray, List.set_cons_zero, List.set_cons_succ])
  unfold walkP
  obtain ⟨c0, c1, c2, c3, c4, c5, c6⟩ := BlkLd.cells HB.out
  clear c0 c1 c2 c5 c6
  generalize [s.nx, (z : Int) / 8 - 1, 4, s.le, (s.gm : Int) - 1, s.fl] = h6 at *
  go_wp2_with fail
  refine (put16_any (some ⟨gA, 0, none⟩) 6 6 s.tg h6 w4 (by omega) HS.out.tg hba).mono ?_
  rintro e w5 ⟨v, rfl, g5, rfl, hg5, hk5, hl5, ha5, hl⟩
  rw [← HH.out] at hk5 hl5 ha5
  have hown : OwnB 5 w5 (w.heap.size + 1) (some ⟨g5, 0, none⟩) 8 8 (headR s.v) := OwnB.ofBlk hk5 ha5 (by omega) hl5 (by simp [maxLen])
  replace HB := Lib.hid (HB.out.below hl HB.out.lt)
  replace hL := Low.trans hL hl
  replace c4 := (hl.cell (p := ⟨w.heap.size, 4, none⟩) (Nat.lt_of_lt_of_le (Nat.lt_succ_self _) hz4)).trans c4
  have hz5 := Nat.le_trans hz4 hl.size
  have HOWN := Lib.hid hown
  clear hba hl hk5 ha5 hl5 hg5 hz4 hown c3 HH h6 H6
  obtain ⟨GA, hGA⟩ : ∃ GA, GA = s.gA := ⟨_, rfl⟩
  rw [← hGA] at c4
  have HAS := Lib.hid HS.out.sg
  rw [← hGA] at HAS
  clear hGA
  go_wp2_with fail
  have HB5 := Lib.hid (Below.refl (w.heap.size + 1) w5)
  go_loopw [3, 39] (fun b i wr => ∃ m n A' c', m ≤ s.gm ∧ i = .int .i64 (m : Nat) ∧ b = .slice A' n c' ∧ n ≤ 168 ∧ Hid (n = 8 + 16 * m) ∧ OwnB 5 wr (w.heap.size + 1) A' n c' (headR s.v ++ (s.sg.take m).flatten) ∧ Below (w.heap.size + 1) w5 wr) (fun _ i _ => s.gm - (intOf i).toNat)
  case atStart => exact ⟨0, 8, _, 8, Nat.zero_le _, rfl, rfl, by omega, Lib.hid rfl, by simpa using HOWN.out, HB5.out⟩
  case round =>
    obtain ⟨m, n, A', c', hm, rfl, rfl, hn, HN, hown, hbr⟩ := hrel
    by_cases hmn : m < s.gm
    · obtain ⟨b, o, rfl, -, -⟩ := HAS.out.mem (by omega)
      obtain ⟨hbl, hr⟩ := HAS.out.at_ hmn
      have hft := flatA_take (l := s.sg) (i := m) (by rw [HAS.out.len]; exact hmn)
      obtain ⟨hx16, hxa⟩ := HAS.out.all.getD m
      generalize s.sg.getD m zero16 = x at *
      have HR := Lib.hid (rangeAt_below (rangeAt_below hr hL hbl) hbr (by omega))
      have HFT := Lib.hid hft
      have HXA := Lib.hid hxa
      have hsz := hbr.size
      have hlt2 := hown.lt
      have HO := Lib.hid hown
      have HBR := Lib.hid hbr
      clear hr hft hxa hown hbr
      go_wp2_with (first
        | (with_reducible refine wpList_load_at rfl (.tmp 41) rfl b (o + m * 16) rfl x hx16 HR.out ?_)
        | ((with_reducible refine wpList_alloc_v rfl 39 rfl (cellsB zero16) addr_zeroR ?_); intro w6 HZ hl6 hz6; refine Hid.out ?_))
      refine Lib.hid ?_
      replace HZ : Hid (Blk w6 39 wr.heap.size zero16) := Lib.hid HZ
      go_wp2_with (refine wpList_store_addr rfl (.tmp 5) (.tmp 42) rfl wr.heap.size rfl x rfl _ zero16 HZ.out rfl hx16 ?_; intro w7 HK hb7 hz7; refine Hid.out ?_)
      refine Lib.hid ?_
      have hl7 : Low wr w7 := Below.trans hl6 hb7
      have hown0 := HO.out.below hl7
      have hsrc := HK.bs (B := w7.heap.size) (n := 16) HXA.out (by omega) hx16
      have HB7 := Lib.hid (HBR.out.trans (hl7.mono (by omega)))
      have hz8 : w.heap.size + 1 ≤ w7.heap.size := by omega
      clear HK hb7 hl6 hz6 hl7 HZ HO HBR HXA
      obtain ⟨hi, hz0, hz1, hz2⟩ := HI.out
      go_wp2_with (at_builtin; refine wpList_append_bs rfl _ _ 28 rfl (w.heap.size + 1) 5 i0 Try.underlying28 hi hz0 hz1 hz2 A' n c' (headR s.v ++ (s.sg.take m).flatten) rfl hown0 _ 16 16 w7.heap.size x rfl hsrc (by omega) (by omega) ?_; intro A2 c2 w8 hown2 hgr hob; refine Hid.out ?_)
      refine Lib.hid ?_
      have hb8 := HB7.out.grown hgr (by omega) fun k e => (hlt2 k e).1
      have HOW := Lib.hid hown2
      have HN2 := Lib.hid (show n + 16 = 8 + 16 * (m + 1) by have := HN.out; omega)
      have hn2 : n + 16 ≤ 168 := by have := HN.out; omega
      clear hgr hob hown2 hown0 hsrc hi hz0 hz1 hz2
      go_wp2_with fail
      go_roundw
      case rel => exact ⟨m + 1, n + 16, A2, c2, by omega, by go_num, rfl, hn2, HN2.out, by rw [HFT.out, ← List.append_assoc]; exact HOW.out, hb8⟩
      case measure => simp [intOf]; omega
    · obtain rfl : m = s.gm := by omega
      have hall : s.sg.take s.gm = s.sg := List.take_of_length_le (by rw [HAS.out.len]; omega)
      rw [hall] at hown
      replace HB := Lib.hid (HB.out.below hbr (by omega))
      obtain ⟨c0, c1, c2, c3, c4, c5, c6⟩ := BlkLd.cells HB.out
      have hsz := hbr.size
      have hlt2 := hown.lt
      have hL2 : Low w wr := Below.trans hL (hbr.mono (by omega))
      have hp2 := HP.out.below' hL2 hL2.size
      have HO := Lib.hid hown
      have HBR := Lib.hid hbr
      clear c0 c1 c2 c3 c4 c5 hall hown hbr
      obtain ⟨hi, hz0, hz1, hz2⟩ := HI.out
      go_wp2_with (at_builtin; refine wpList_append_bs rfl _ _ 28 rfl (w.heap.size + 1) 5 i0 Try.underlying28 hi hz0 hz1 hz2 A' n c' (headR s.v ++ s.sg.flatten) rfl HO.out pA pn pc wr.heap.size (putT s.v.tl) rfl hp2 (by omega) (by omega) ?_; intro A2 c2 w8 hown2 hgr hob; refine Hid.out ?_)
      refine Lib.hid ?_
      have hb8 := HBR.out.grown hgr (by omega) fun k e => (hlt2 k e).1
      have HOW := Lib.hid (hown2.lessR (base' := w.heap.size) (by omega))
      clear hgr hob hown2 hp2 hi hz0 hz1 hz2
      go_wp2_with fail
      go_ret
      exact GivesFB.of HF.out HOW.out (Below.trans hL (hb8.mono (by omega)))

set_option maxRecDepth 100000 in
set_option maxHeartbeats 1600000 in
theorem srput_any (s : Sr) (w : World) (hs : s.ok w w.heap.size) : Calls Try.prog 9 #[srV s] w (GivesPB w (putR s.v) (canR s.v)) := by
  unfold srV
  have HT := Lib.hid hs
  clear hs
  go_enter Try.func9, Try.ntmps9
  go_wp2_with ((with_reducible refine wpList_box_sr rfl (.tmp 0) rfl s rfl ?_); intro w1 HB hL hz1; refine Hid.out ?_)
  refine Lib.hid ?_
  replace HB := Lib.hid HB
  clear hz1
  go_wp2_with (with_reducible refine wpList_load_sr rfl (.tmp 1) rfl w.heap.size rfl s HB.out ?_)
  refine (lay_any s w1 (HT.out.low hL)).mono ?_
  rintro e w2 ⟨t, pA, pn, pc, rfl, hyes, hB2⟩
  replace hL := hL.trans hB2
  have HYES := Lib.hid hyes
  clear hB2 hyes HB
  obtain ⟨x, hx⟩ : ∃ x, x = canR s.v := ⟨_, rfl⟩
  rw [← hx] at HYES ⊢
  have HX := Lib.hid hx.symm
  clear hx
  unfold laidV
  go_wp2_with ((with_reducible refine wpList_alloc_v rfl 44 rfl (laidC zeroSr none 0 0) laid_zero ?_); intro w3 HZ hl3 hz3; refine Hid.out ?_)
  refine Lib.hid ?_
  replace HZ : Hid (BlkLd w3 w2.heap.size zeroSr none 0 0) := Lib.hid HZ
  go_wp2_with (refine wpList_store_laid rfl (.tmp 4) (.tmp 9) rfl w2.heap.size rfl t pA pn pc rfl zeroSr none 0 0 HZ.out ?_; intro w4 HG hb4 ho4 hz4; refine Hid.out ?_)
  refine Lib.hid ?_
  have hl4 : Low w2 w4 := Below.trans hl3 hb4
  replace HG := Lib.hid HG
  replace hL : Low w w4 := hL.trans hl4
  clear HZ ho4 hb4 hl3 hz3 hz4
  by_cases h0 : x = 0
  · subst h0
    obtain ⟨rfl, hbs⟩ := HYES.out rfl
    have hb2 := Lib.hid (hbs.below' hl4 hl4.size)
    clear HYES hl4 hbs
    go_wp2_with (with_reducible refine wpList_load_laid rfl (.tmp 4) rfl w2.heap.size rfl t pA pn pc HG.out ?_)
    refine (lbytes_any t pA pn pc w4 (HT.out.low hL) hb2.out HX.out).mono ?_
    rintro e w5 ⟨A5, c5, rfl, hown5, hB5⟩
    have HO := Lib.hid (hown5.lessR (base' := w.heap.size) hL.size)
    replace hL := hL.trans hB5
    have HF := Lib.hid (putR_yes HX.out)
    clear hown5 hB5 hb2 HG
    generalize flatR t.v = ys at *
    obtain ⟨q, hq⟩ : ∃ q, q = ys.length := ⟨_, rfl⟩
    rw [← hq] at HO ⊢
    clear hq
    go_wp2_with fail
    go_ret2
    exact GivesPB.of HF.out HX.out HO.out hL
  · have hxb : (x != 0) = true := by simpa using h0
    have HP := Lib.hid (putR_none (x := s.v) (by rw [HX.out]; exact h0))
    clear HYES hl4
    go_wp2_with fail
    go_ret2
    exact GivesPB.of HP.out HX.out (OwnB.none_ _ _ _) hL

set_option maxRecDepth 100000 in
set_option maxHeartbeats 1600000 in
theorem srsize_any (s : Sr) (w : World) (hs : s.ok w w.heap.size) : Calls Try.prog 12 #[srV s] w fun e w' => e = .returned (.int .i64 ((putR s.v).length : Nat)) ∧ Below w.heap.size w w' := by
  unfold srV
  have HT := Lib.hid hs
  clear hs
  go_enter Try.func12, Try.ntmps12
  go_wp2_with ((with_reducible refine wpList_box_sr rfl (.tmp 0) rfl s rfl ?_); intro w1 HB hL hz1; refine Hid.out ?_)
  refine Lib.hid ?_
  replace HB := Lib.hid HB
  clear hz1
  go_wp2_with (with_reducible refine wpList_load_sr rfl (.tmp 1) rfl w.heap.size rfl s HB.out ?_)
  refine (lay_any s w1 (HT.out.low hL)).mono ?_
  rintro e w2 ⟨t, pA, pn, pc, rfl, hyes, hB2⟩
  replace hL := hL.trans hB2
  have HYES := Lib.hid hyes
  clear hB2 hyes HB
  obtain ⟨x, hx⟩ : ∃ x, x = canR s.v := ⟨_, rfl⟩
  rw [← hx] at HYES ⊢
  have HX := Lib.hid hx.symm
  clear hx
  unfold laidV
  go_wp2_with ((with_reducible refine wpList_alloc_v rfl 44 rfl (laidC zeroSr none 0 0) laid_zero ?_); intro w3 HZ hl3 hz3; refine Hid.out ?_)
  refine Lib.hid ?_
  replace HZ : Hid (BlkLd w3 w2.heap.size zeroSr none 0 0) := Lib.hid HZ
  go_wp2_with (refine wpList_store_laid rfl (.tmp 3) (.tmp 8) rfl w2.heap.size rfl t pA pn pc rfl zeroSr none 0 0 HZ.out ?_; intro w4 HG hb4 ho4 hz4; refine Hid.out ?_)
  refine Lib.hid ?_
  have hl4 : Low w2 w4 := Below.trans hl3 hb4
  replace HG := Lib.hid HG
  replace hL : Low w w4 := hL.trans hl4
  clear HZ ho4 hb4 hl3 hz3 hz4
  by_cases h0 : x = 0
  · subst h0
    obtain ⟨rfl, hbs⟩ := HYES.out rfl
    have hpl := hbs.len
    have hpn : pn ≤ 256 := by have := putT_len_le t.v.tl; omega
    have hsl : t.v.sg.length = t.gm := HT.out.sg.len
    have HZZ := Lib.hid (show ((putR t.v).length : Nat) = 8 + 16 * t.gm + pn by rw [putR_len HT.out.sg.all HX.out]; unfold sizeR; rw [hsl, hpl])
    clear HYES hl4 hbs hpl hsl
    obtain ⟨z, hz⟩ : ∃ z, z = (putR t.v).length := ⟨_, rfl⟩
    rw [← hz] at HZZ
    have HZ2 := Lib.hid hz
    clear hz
    go_wp2_with (with_reducible refine wpList_load_laid rfl (.tmp 3) rfl w2.heap.size rfl t pA pn pc HG.out ?_)
    refine (lsize_any t pA pn pc w4 HT.out.gm (by omega) z HZZ.out).mono ?_
    rintro e w5 ⟨rfl, hB5⟩
    replace hL := hL.trans hB5
    clear hB5 HG
    go_wp2_with fail
    go_ret
    exact ⟨by rw [← HZ2.out]; rfl, hL⟩
  · have hxb : (x != 0) = true := by simpa using h0
    have HP := Lib.hid (putR_none (x := s.v) (by rw [HX.out]; exact h0))
    clear HYES hl4
    go_wp2_with fail
    go_ret
    exact ⟨by rw [HP.out]; rfl, hL⟩
end Go.Proofs.Ytnfiijbnfmcpjaa
