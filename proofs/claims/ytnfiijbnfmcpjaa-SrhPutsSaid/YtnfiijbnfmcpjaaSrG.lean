/- What the document's own Put answers: the bytes of a routing header. Condition: at most 2^47 segments and parts. -/
import Derived.Test.YtnfiijbnfmcpjaaSrF
import Derived.Test.YtnfiijbnfmcpjaaTlE
import Derived.Test.YtnfiijbnfmcpjaaRefA
namespace Go.Proofs.Ytnfiijbnfmcpjaa
open Go.RowKit
set_option linter.unusedVariables false

theorem take_succR {x : List Int} {k : Nat} (hx : x.length = 16) (hk : k < 16) : x.take (k + 1) = x.take k ++ [x.getD k 0] := by
  rw [List.take_succ_eq_append_getElem (show k < x.length by omega)]
  simp [List.getD, show k < x.length by omega]

set_option maxRecDepth 100000 in
set_option maxHeartbeats 3200000 in
theorem rsrput_any (s : Sr) (w : World) (hs : s.ok w w.heap.size) : Calls Try.prog 10 #[srV s] w (GivesPB w (putR s.v) (canR s.v)) := by
  unfold srV
  obtain ⟨i0, hi, hz0, hz1, hz2⟩ := info_parts info5
  have HI := Lib.hid (And.intro hi (And.intro hz0 (And.intro hz1 hz2)))
  clear hi hz0 hz1 hz2
  have HT := Lib.hid hs
  clear hs
  go_enter Try.func10, Try.ntmps10
  go_wp2_with ((with_reducible refine wpList_box_sr rfl (.tmp 0) rfl s rfl ?_); intro w1 HB hL hz1; refine Hid.out ?_)
  refine Lib.hid ?_
  replace HB := Lib.hid HB
  clear hz1
  go_wp2_with (with_reducible refine wpList_load_sr rfl (.tmp 1) rfl w.heap.size rfl s HB.out ?_)
  refine (rsrcan_any s w1 (HT.out.low hL)).mono ?_
  rintro e w2 ⟨rfl, hB2⟩
  replace HB := Lib.hid (HB.out.below hB2 HB.out.lt)
  replace hL := hL.trans hB2
  clear hB2
  obtain ⟨x, hx⟩ : ∃ x, x = canR s.v := ⟨_, rfl⟩
  rw [← hx]
  have HX := Lib.hid hx.symm
  clear hx
  by_cases h0 : x = 0
  · subst h0
    have hcan := HX.out
    obtain ⟨hcf, hcg, hcl, hct⟩ := canR_zero hcan
    have HCT : Hid (canT (s.tl.map Od.v) = 0) := Lib.hid hct
    have hq := putT_len hct
    have hsl : s.v.sg.length = s.gm := HT.out.sg.len
    have hg10 : s.gm ≤ 10 := by omega
    have hg1 : 1 ≤ s.gm := by omega
    obtain ⟨k1, k2, k3, k4, k5⟩ := headR_wrap hcan
    rw [hsl] at k4
    obtain ⟨q, hqq⟩ : ∃ q, q = (putT s.v.tl).length := ⟨_, rfl⟩
    rw [← hqq] at hq
    have hzz : ((sizeR s.v : Nat) : Int) / 8 - 1 = 2 * s.gm + (q : Int) / 8 := by unfold sizeR; rw [hsl, ← hqq]; omega
    rw [hzz] at k5
    replace k1 : IntKind.u8.wrap s.nx = s.nx := k1
    replace k2 : IntKind.u8.wrap s.le = s.le := k2
    replace k3 : IntKind.u8.wrap s.fl = s.fl := k3
    obtain ⟨hq1, hq2⟩ := hq
    have v1 : IntKind.i64.wrap ((q : Int) / 8) = (q : Int) / 8 := wraps_i64 _ (by omega) (by omega)
    have v2 : IntKind.i64.wrap (2 * (s.gm : Int) + (q : Int) / 8) = 2 * (s.gm : Int) + (q : Int) / 8 := wraps_i64 _ (by omega) (by omega)
    have v3 : IntKind.i64.wrap ((s.gm : Int) - 1) = (s.gm : Int) - 1 := wraps_i64 _ (by omega) (by omega)
    have v4 : IntKind.i64.wrap (2 * (s.gm : Int)) = 2 * (s.gm : Int) := wraps_i64 _ (by omega) (by omega)
    have HHA := Lib.hid (headR_all hcan)
    have HH := Lib.hid (show headR s.v = [s.nx, 2 * (s.gm : Int) + (q : Int) / 8, 4, s.le, (s.gm : Int) - 1, s.fl] ++ two s.tg by unfold headR; rw [hzz, hsl]; rfl)
    have HF := Lib.hid ((putR_yes hcan).trans (show flatR s.v = headR s.v ++ s.sg.flatten ++ putT s.v.tl from rfl))
    have H6 := Lib.hid (show AllB [s.nx, 2 * (s.gm : Int) + (q : Int) / 8, 4, s.le, (s.gm : Int) - 1, s.fl] from fun x hx => HHA.out x (by rw [HH.out]; exact List.mem_append_left _ hx))
    have HQ := Lib.hid hqq
    clear hcan hcf hcg hcl hct hsl hzz HHA hqq hq2
    obtain ⟨c0, c1, c2, c3, c4, c5⟩ := BlkR.cells HB.out
    have HK := Lib.hid (And.intro k1 (And.intro k2 (And.intro k3 (And.intro k4 k5))))
    have HVV := Lib.hid (And.intro v1 (And.intro v2 (And.intro v3 v4)))
    clear c0 c1 c2 c3 c4 k1 k2 k3 k4 k5 v1 v2 v3 v4
    go_wp2_with fail
    refine (rtlput_any s.tA s.tm s.tc s.tl w2 (by have := HT.out.tm; omega) (HT.out.low hL).tl).mono ?_
    rintro e w3 ⟨A3, r3, rfl, hb3, -, hB3⟩
    rw [HCT.out]
    rw [show (putT (s.tl.map Od.v)).length = q from HQ.out.symm] at hb3 ⊢
    have HP3 : Hid (Bs w3 w3.heap.size A3 q (putT s.v.tl)) := Lib.hid hb3
    replace HB := Lib.hid (HB.out.below hB3 HB.out.lt)
    replace hL := hL.trans hB3
    clear hB3 hb3 c5
    obtain ⟨c0, c1, c2, c3, c4, c5⟩ := BlkR.cells HB.out
    obtain ⟨k1, k2, k3, k4, k5⟩ := HK.out
    obtain ⟨v1, v2, v3, v4⟩ := HVV.out
    have hlt := HB.out.lt
    clear c5
    go_wp2_with fail
    have hla := Low.alloc w3 (.cells #[.int .u8 s.nx, .int .u8 (2 * (s.gm : Int) + (q : Int) / 8), .int .u8 4, .int .u8 s.le, .int .u8 ((s.gm : Int) - 1), .int .u8 s.fl] 5)
    have hka : Blk (w3.alloc (.cells #[.int .u8 s.nx, .int .u8 (2 * (s.gm : Int) + (q : Int) / 8), .int .u8 4, .int .u8 s.le, .int .u8 ((s.gm : Int) - 1), .int .u8 s.fl] 5)) 5 w3.heap.size [s.nx, 2 * (s.gm : Int) + (q : Int) / 8, 4, s.le, (s.gm : Int) - 1, s.fl] := Blk.new w3 5 [s.nx, 2 * (s.gm : Int) + (q : Int) / 8, 4, s.le, (s.gm : Int) - 1, s.fl]
    have hown := OwnB.ofBlk (n := 6) (base := w3.heap.size) hka H6.out (Nat.le_refl _) rfl (by simp [maxLen])
    have hz4 := hla.size
    have HBB : Below w3.heap.size w3 _ := hla
    have hL3 := hL.size
    obtain ⟨B3, hB3⟩ : ∃ g, g = w3.heap.size := ⟨_, rfl⟩
    rw [← hB3] at hown hz4 HBB hlt HP3 hL3 ⊢
    clear hka hla hB3 c0 c1 c2 c3 c4 k1 k2 k3 k4 k5 v1 v2 v3 v4 HK HVV H6
    generalize w3.alloc (.cells #[.int .u8 s.nx, .int .u8 (2 * (s.gm : Int) + (q : Int) / 8), .int .u8 4, .int .u8 s.le, .int .u8 ((s.gm : Int) - 1), .int .u8 s.fl] 5) = w4 at *
    generalize [s.nx, 2 * (s.gm : Int) + (q : Int) / 8, 4, s.le, (s.gm : Int) - 1, s.fl] = h6 at *
    refine (rtwo_any s.tg w4 HT.out.tg).mono ?_
    rintro e w5 ⟨v, rfl, g5, rfl, hg5, hk5, hl5, ha5, hl⟩
    have hown0 := hown.below hl
    have hsrc := hk5.bs (B := w5.heap.size) ha5 hk5.lt hl5
    replace HBB := HBB.trans (hl.mono hz4)
    have hz5 := Nat.le_trans hz4 hl.size
    have hlt2 := hown0.lt
    obtain ⟨hi, hz0, hz1, hz2⟩ := HI.out
    clear hl hown hz4 hk5 ha5 hl5 hg5
    go_wp2_with (at_builtin; refine wpList_append_bs rfl _ _ 28 rfl B3 5 i0 Try.underlying28 hi hz0 hz1 hz2 (some ⟨B3, 0, none⟩) 6 6 h6 rfl hown0 _ 2 2 w5.heap.size (two s.tg) rfl hsrc (by omega) hz5 ?_; intro A6 c6 w6 hown6 hgr hob; refine Hid.out ?_)
    refine Lib.hid ?_
    rw [← HH.out] at hown6
    have hb6 := HBB.grown hgr hz5 fun k e => (hlt2 k e).1
    have hz6 := Nat.le_trans hz5 hgr.size
    have HOWN := Lib.hid hown6
    have HB6 := Lib.hid hb6
    have HLT := Lib.hid hlt
    obtain ⟨GA, hGA⟩ : ∃ GA, GA = s.gA := ⟨_, rfl⟩
    have HAS := Lib.hid HT.out.sg
    rw [← hGA] at HAS
    have HSC := Lib.hid (show (Value.slice s.gA s.gm s.gc) = .slice GA s.gm s.gc by rw [hGA])
    have HC4 : ∀ u, Below B3 w3 u → u.cell? ⟨w.heap.size, 4, none⟩ = some (.slice GA s.gm s.gc) := fun u hu => by
      rw [← HSC.out]
      exact (BlkR.cells (HB.out.below hu HLT.out)).2.2.2.2.1
    replace HC4 := Lib.hid HC4
    clear hi hz0 hz1 hz2 hgr hob hown6 hown0 hsrc hlt2 hb6 HBB hlt hz5 HH h6 hGA HSC w5
    go_wp2_with fail
    go_loopw [7, 8] (fun b i wr => ∃ m n A' c', m ≤ s.gm ∧ i = .int .i64 (m : Nat) ∧ b = .slice A' n c' ∧ n ≤ 168 ∧ Hid (n = 8 + 16 * m) ∧ OwnB 5 wr B3 A' n c' (headR s.v ++ (s.sg.take m).flatten) ∧ Below B3 w3 wr ∧ B3 ≤ wr.heap.size) (fun _ i _ => s.gm - (intOf i).toNat)
    case atStart => exact ⟨0, 8, _, c6, Nat.zero_le _, rfl, rfl, by omega, Lib.hid rfl, by simpa using HOWN.out, HB6.out, hz6⟩
    case round =>
      obtain ⟨m, n, A', c', hm, rfl, rfl, hn, HN, hown, hbr, hzr⟩ := hrel
      have c4 := HC4.out wr hbr
      by_cases hmn : m < s.gm
      · obtain ⟨b, o, rfl, -, -⟩ := HAS.out.mem (by omega)
        obtain ⟨hbl, hr⟩ := HAS.out.at_ hmn
        have hft := flatA_take (l := s.sg) (i := m) (by rw [HAS.out.len]; exact hmn)
        obtain ⟨hx16, hxa⟩ := HAS.out.all.getD m
        generalize s.sg.getD m zero16 = x at *
        have HR := Lib.hid (rangeAt_below hr hL hbl)
        have HFT := Lib.hid hft
        have HXA := Lib.hid hxa
        have HO := Lib.hid hown
        have HBR := Lib.hid hbr
        have HLX := Lib.hid hx16
        have hb3 : b < B3 := by omega
        clear hr hft hxa hown hbr hx16
        go_wp2_with fail
        go_loopw [7, 9] (fun v k wq => ∃ p n2 A2 c2, p ≤ 16 ∧ k = .int .i64 (p : Nat) ∧ v = .slice A2 n2 c2 ∧ n2 ≤ 184 ∧ Hid (n2 = n + p) ∧ OwnB 5 wq B3 A2 n2 c2 (headR s.v ++ (s.sg.take m).flatten ++ x.take p) ∧ Below B3 w3 wq ∧ B3 ≤ wq.heap.size) (fun _ k _ => 16 - (intOf k).toNat)
        case atStart => exact ⟨0, n, _, c', Nat.zero_le _, rfl, rfl, by omega, Lib.hid rfl, by simpa using HO.out, HBR.out, hzr⟩
        case round =>
          clear c4 hzr HBR HO
          obtain ⟨p, n2, A2, c2, hp, rfl, rfl, hn2, HN2, hown, hbr, hzr⟩ := hrel
          by_cases hp16 : p < 16
          · have c4 := HC4.out wr hbr
            have hy := HXA.out.getD p
            have cx : wr.cell? ⟨b, o + m * 16 + p, none⟩ = some (.int .u8 (x.getD p 0)) := (hbr.cell (p := ⟨b, o + m * 16 + p, none⟩) hb3).trans (HR.out p _ (cellsB_get (by rw [HLX.out]; exact hp16)))
            have hts := take_succR HLX.out hp16
            generalize x.getD p 0 = y at *
            have HTS := Lib.hid hts
            have hl1 := Low.alloc wr (.cells #[.int .u8 y] 5)
            have hk1 : Blk (wr.alloc (.cells #[.int .u8 y] 5)) 5 wr.heap.size [y] := Blk.new wr 5 [y]
            have hsrc := hk1.bs (B := wr.heap.size + 1) (n := 1) (.cons hy.1 hy.2 .nil) (by omega) rfl
            have hown0 := hown.below hl1
            have hlt2 := hown0.lt
            have HB1 := Lib.hid (hbr.trans (hl1.mono hzr))
            have HZ1 := Lib.hid (Nat.le_trans hzr hl1.size)
            obtain ⟨hi, hz0, hz1, hz2⟩ := HI.out
            clear hts hl1 hk1 hown hbr
            go_wp2_with (at_builtin; refine wpList_append_bs rfl _ _ 28 rfl B3 5 i0 Try.underlying28 hi hz0 hz1 hz2 A2 n2 c2 (headR s.v ++ (s.sg.take m).flatten ++ x.take p) rfl hown0 _ 1 1 (wr.heap.size + 1) [y] rfl hsrc (by omega) HZ1.out ?_; intro A3 c3 w8 hown2 hgr hob; refine Hid.out ?_)
            refine Lib.hid ?_
            have hb8 := HB1.out.grown hgr HZ1.out fun k e => (hlt2 k e).1
            have hz8 := Nat.le_trans HZ1.out hgr.size
            have HOW := Lib.hid hown2
            have HN3 := Lib.hid (show n2 + 1 = n + (p + 1) by have := HN2.out; omega)
            have hn3 : n2 + 1 ≤ 184 := by have := HN2.out; omega
            clear hgr hob hown2 hown0 hsrc hi hz0 hz1 hz2 c4 cx
            go_wp2_with fail
            go_roundw
            case rel => exact ⟨p + 1, n2 + 1, A3, c3, by omega, by go_num, rfl, hn3, HN3.out, by rw [HTS.out, ← List.append_assoc]; exact HOW.out, hb8, hz8⟩
            case measure => simp [intOf]; omega
          · obtain rfl : p = 16 := by omega
            have hn3 : n2 ≤ 168 := by have := HN2.out; have := HN.out; omega
            have HN3 := Lib.hid (show n2 = 8 + 16 * (m + 1) by have := HN2.out; have := HN.out; omega)
            have hxt : x.take 16 = x := List.take_of_length_le (by rw [HLX.out]; omega)
            rw [hxt, List.append_assoc, ← HFT.out] at hown
            have HO := Lib.hid hown
            clear hxt hown
            go_wp2_with fail
            go_roundw
            case rel => exact ⟨m + 1, n2, A2, c2, by omega, by go_num, rfl, hn3, HN3.out, HO.out, hbr, hzr⟩
            case measure => simp [intOf]; omega
      · obtain rfl : m = s.gm := by omega
        have hall : s.sg.take s.gm = s.sg := List.take_of_length_le (by rw [HAS.out.len]; omega)
        rw [hall] at hown
        have hlt2 := hown.lt
        have hp2 := HP3.out.below hbr
        have HO := Lib.hid hown
        have HBR := Lib.hid hbr
        clear hall hown hbr
        obtain ⟨hi, hz0, hz1, hz2⟩ := HI.out
        go_wp2_with (at_builtin; refine wpList_append_bs rfl _ _ 28 rfl B3 5 i0 Try.underlying28 hi hz0 hz1 hz2 A' n c' (headR s.v ++ s.sg.flatten) rfl HO.out A3 q r3 B3 (putT s.v.tl) rfl hp2 (by omega) hzr ?_; intro A2 c2 w8 hown2 hgr hob; refine Hid.out ?_)
        refine Lib.hid ?_
        have hb8 := HBR.out.grown hgr hzr fun k e => (hlt2 k e).1
        have HOW := Lib.hid (hown2.lessR (base' := w.heap.size) hL3)
        clear hgr hob hown2 hp2 hi hz0 hz1 hz2
        go_wp2_with fail
        go_ret2
        exact GivesPB.of HF.out HX.out HOW.out (Below.trans hL (hb8.mono hL3))
  · have hxb : (x != 0) = true := by simpa using h0
    have HP := Lib.hid (putR_none (x := s.v) (by rw [HX.out]; exact h0))
    go_wp2_with fail
    go_ret2
    exact GivesPB.of HP.out HX.out (OwnB.none_ _ _ _) hL
end Go.Proofs.Ytnfiijbnfmcpjaa
