/- Texts joined.
  What flow.Of tells of a packet. Conditions: its addresses are 16 bytes.
  The walk of harrierlaw14.FlowPackets: it answers true, where the program's own Parse tells what the page says. Conditions: this, at most 2^47 bytes; the library's tables hold what their texts lay.
-/
import Derived.Test.YtjafjapnmffohaaGreatDoorJFl
import Derived.Test.YtjafjapnmffohaaGreatDoorPkD
import Derived.Test.YtjafjapnmffohaaGreatDoorPkB
import Derived.Test.YtjafjapnmffohaaGreatDoorPkH
import Derived.Test.YtjafjapnmffohaaGreatDoorPkK
set_option maxRecDepth 100000
namespace Go.Proofs.YtjafjapnmffohaaGreatDoor
open Go.RowKit
set_option linter.unusedVariables false

/-- the flow of a packet -/
def ofF (p : Pq) : Fw := if p.k = 6 then ⟨p.h.s, p.t.sp, p.f, p.t.dp⟩ else zeroF
theorem wpList_build_exZ {ops : Array Oper} {rest : List Oper} {o : Oper} {a : Act} {w : World} {Q : Exit → Act → World → Prop} (hgd : o.guard = none) (ho : o.op = .build 46 #[])
    (hk : wpList Tryz.prog ops Q rest (a.put o.dst (.agg (fwC zeroF).toArray)) w) : wpList Tryz.prog ops Q (o :: rest) a w :=
  wpList_plain hgd fun K hK => by
    unfold Oper.wp execOp
    simp only [ho, List.map_toArray, List.map_nil, Sem.run_bind, run_build_exZ, Result.andThen_ok, Sem.run_pure]
    exact hK _ _ hk

set_option maxRecDepth 100000 in
set_option maxHeartbeats 1600000 in
theorem fof_any (p : Pq) (w : World) (hs : p.h.s.length = 16) (hd : p.h.d.length = 16) (hf : p.f.length = 16) :
    Calls Tryz.prog 6 #[pqV p] w fun e w' => e = .returned (.tuple #[fwV (ofF p), .bool (decide (p.k = 6))]) ∧ Below w.heap.size w w' := by
  unfold pqV fwV
  have HS := Lib.hid hs
  have HD := Lib.hid hd
  have HF := Lib.hid hf
  clear hs hd hf
  by_cases hk : p.k = 6
  · rw [show ofF p = ⟨p.h.s, p.t.sp, p.f, p.t.dp⟩ by unfold ofF; rw [if_pos hk], decide_eq_true hk]
    go_enter Tryz.func6, Tryz.ntmps6
    go_wp2_with (first | ((with_reducible refine wpList_box_pq rfl (.tmp 0) rfl p rfl ?_); intro w1 HB hL hz1) | ((with_reducible refine wpList_alloc_fw rfl rfl ?_); intro w2 HZ hl hz2; refine Hid.out ?_))
    refine Lib.hid ?_
    rw [hz1] at HZ
    replace HB := Lib.hid (HB.below hl HB.lt)
    replace HZ := Lib.hid HZ
    replace hL := hL.trans hl
    clear hz1 hz2 hl
    have c60 : w2.cell? ⟨w.heap.size, 60, none⟩ = some (.int .i64 6) := by rw [← hk]; exact rangeAt_one (HB.out.kd HS.out HD.out HF.out)
    have c61 : w2.cell? ⟨w.heap.size, 61, none⟩ = some (.int .i64 p.t.sp) := HB.out.tc HS.out HD.out HF.out 0 _ rfl
    have c62 : w2.cell? ⟨w.heap.size, 62, none⟩ = some (.int .i64 p.t.dp) := HB.out.tc HS.out HD.out HF.out 1 _ rfl
    have HRS := Lib.hid (HB.out.src HS.out)
    have HRF := Lib.hid (HB.out.fin HS.out HD.out HF.out)
    clear hk HB
    go_wp2_with (first
      | (with_reducible refine wpList_load_atF rfl (.tmp 9) rfl w.heap.size 5 rfl p.h.s HS.out HRS.out ?_)
      | (with_reducible refine wpList_load_atF rfl (.tmp 14) rfl w.heap.size 44 rfl p.f HF.out HRF.out ?_)
      | ((refine wpList_build_fw rfl (.tmp 10) (.tmp 13) (.tmp 15) (.tmp 18) rfl p.h.s p.f p.t.sp p.t.dp rfl rfl rfl rfl HS.out HF.out ?_); refine Hid.out ?_))
    refine Lib.hid ?_
    clear c60 c61 c62
    go_wp2_with ((refine wpList_store_fw rfl (.tmp 2) (.tmp 19) rfl (w.heap.size + 1) rfl ⟨p.h.s, p.t.sp, p.f, p.t.dp⟩ rfl zeroF HZ.out rfl rfl HS.out HF.out ?_); intro w3 HG hb3 hz3 ho3; refine Hid.out ?_)
    refine Lib.hid ?_
    have HR := Lib.hid HG
    go_wp2_with fail
    refine bodyPost_ret (v := .tuple #[.agg (fwC ⟨p.h.s, p.t.sp, p.f, p.t.dp⟩).toArray, .bool true]) (results_cell_tmp Tryz.results6 _ _ (w.heap.size + 1) _ _ _ _ _ rfl rfl HR.out Tryz.underlying46 rfl (by rw [flow_size]; simp [fwC_length (f := ⟨p.h.s, p.t.sp, p.f, p.t.dp⟩) HS.out HF.out])) rfl ?_
    exact ⟨rfl, Below.trans hL (hb3.mono (by omega))⟩
  · rw [show ofF p = zeroF by unfold ofF; rw [if_neg hk], decide_eq_false hk]
    go_enter Tryz.func6, Tryz.ntmps6
    go_wp2_with (first | ((with_reducible refine wpList_box_pq rfl (.tmp 0) rfl p rfl ?_); intro w1 HB hL hz1) | ((with_reducible refine wpList_alloc_fw rfl rfl ?_); intro w2 HZ hl hz2; refine Hid.out ?_))
    refine Lib.hid ?_
    rw [hz1] at HZ
    replace HB := Lib.hid (HB.below hl HB.lt)
    replace HZ := Lib.hid HZ
    replace hL := hL.trans hl
    clear hz1 hz2 hl
    have c60 : w2.cell? ⟨w.heap.size, 60, none⟩ = some (.int .i64 p.k) := rangeAt_one (HB.out.kd HS.out HD.out HF.out)
    have hk2 : (p.k != 6) = true := by simpa using hk
    have hk3 : (p.k == 6) = false := by simpa using hk
    clear HB
    go_wp2_with (with_reducible refine wpList_build_exZ rfl rfl (Hid.out ?_))
    refine Lib.hid ?_
    clear c60
    go_wp2_with ((refine wpList_store_fw rfl (.tmp 2) (.tmp 7) rfl (w.heap.size + 1) rfl zeroF rfl zeroF HZ.out rfl rfl rfl rfl ?_); intro w3 HG hb3 hz3 ho3; refine Hid.out ?_)
    refine Lib.hid ?_
    have HR := Lib.hid HG
    go_wp2_with fail
    refine bodyPost_ret (v := .tuple #[.agg (fwC zeroF).toArray, .bool false]) (results_cell_tmp Tryz.results6 _ _ (w.heap.size + 1) _ _ _ _ _ rfl rfl HR.out Tryz.underlying46 rfl (by rw [flow_size]; rfl)) rfl ?_
    exact ⟨rfl, Below.trans hL (hb3.mono (by omega))⟩
end Go.Proofs.YtjafjapnmffohaaGreatDoor

namespace Go.Proofs.YtjafjapnmffohaaGreatDoor
open Go.RowKit
set_option linter.unusedVariables false

section
variable {ops : Array Oper} {rest : List Oper} {o : Oper} {a : Act} {w : World} {Q : Exit → Act → World → Prop}
theorem wpList_load_atF_g (hw : Region.wanted o (yielded ops a.tmps) = true) (x : Operand) (ho : o.op = .load 24 x) (b p : Nat) (hx : a.eval x = .pointer (some ⟨b, p, none⟩)) (s : List Int) (hs : s.length = 16) (hc : w.rangeAt b p (cellsB s))
    (hk : wpList Tryz.prog ops Q rest (a.put o.dst (.agg (cellsB s).toArray)) w) : wpList Tryz.prog ops Q (o :: rest) a w :=
  wpList_step fun K hK => by
    simp only [hw, if_true]
    exact wp_load_mid 24 x ho b p hx (cellsB s) _ hc Tryz.underlying24 rfl (by rw [addr_size]; simp [cellsB_length, hs]) (hK _ _ hk)
theorem wpList_build_fw_g (hw : Region.wanted o (yielded ops a.tmps) = true) (x0 x1 x2 x3 : Operand) (ho : o.op = .build 46 #[(0, x0), (1, x1), (2, x2), (3, x3)])
    (s d : List Int) (p q : Int) (e0 : a.eval x0 = .agg (cellsB s).toArray) (e1 : a.eval x1 = .int .i64 p) (e2 : a.eval x2 = .agg (cellsB d).toArray) (e3 : a.eval x3 = .int .i64 q) (hs : s.length = 16) (hd : d.length = 16)
    (hk : wpList Tryz.prog ops Q rest (a.put o.dst (.agg (fwC ⟨s, p, d, q⟩).toArray)) w) : wpList Tryz.prog ops Q (o :: rest) a w :=
  wpList_step fun K hK => by
    simp only [hw, if_true]
    unfold Oper.wp execOp
    simp only [ho, List.map_toArray, List.map_cons, List.map_nil, e0, e1, e2, e3, Sem.run_bind, run_build_fw s d p q hs hd, Result.andThen_ok, Sem.run_pure]
    exact hK _ _ hk
end
/-- two packets that say the same have one flow -/
theorem of_same {p q : Pq} (h : p.v = q.v) : p.k = q.k ∧ ofF p = ofF q := by
  have h1 : p.h = q.h := congrArg Pb.h h
  have h2 : p.f = q.f := congrArg Pb.f h
  have h3 : p.k = q.k := congrArg Pb.k h
  have h4 : p.t.v = q.t.v := congrArg Pb.t h
  have h5 : p.t.sp = q.t.sp := congrArg Sb.sp h4
  have h6 : p.t.dp = q.t.dp := congrArg Sb.dp h4
  exact ⟨h3, by unfold ofF; rw [h1, h2, h3, h5, h6]⟩

set_option maxRecDepth 100000 in
set_option maxHeartbeats 6400000 in
theorem flp_walk (hP : PktParses) (A : Option Addr) (n c : Nat) (xs : List Int) (w : World) (hn : n ≤ 140737488351232) (hc : n ≤ c) (hc2 : c ≤ 9223372036854775807) (hb : Bs w w.heap.size A n xs) (hp : Pow10 w) (ht : LibT w) :
    Calls Tryz.prog 3 #[.slice A n c] w fun e w' => e = .returned (.bool true) ∧ Below w.heap.size w w' := by
  have HP := Lib.hid hP
  have HB := Lib.hid hb
  have HPW := Lib.hid hp
  have HT := Lib.hid ht
  clear hP hb hp ht
  go_enter Tryz.func3, Tryz.ntmps3
  go_wp2_with fail
  refine (HP.out A n c xs w hn hc hc2 HB.out).mono ?_
  intro e w1 hq
  obtain ⟨p, rfl, hpv, hpk, hB1, l1, l2, l3⟩ := hq.lens
  have HPV := Lib.hid hpv
  have L1 := Lib.hid l1
  have L2 := Lib.hid l2
  have L3 := Lib.hid l3
  have hL : Low w w1 := hB1
  replace HB := Lib.hid (HB.out.below' hL hL.size)
  obtain ⟨er, her⟩ : ∃ er, er = pkE xs := ⟨_, rfl⟩
  rw [← her]
  have HER := Lib.hid her
  clear hq hpv hpk hB1 l1 l2 l3 her HP
  unfold pqV
  go_wp2_with ((with_reducible refine wpList_alloc_pq pkt_own rfl rfl ?_); intro w2 HZ hl2 hz2; refine Hid.out ?_)
  refine Lib.hid ?_
  go_wp2_with ((refine wpList_store_pq pkt_own rfl (.tmp 3) (.tmp 12) rfl w1.heap.size rfl p rfl zeroQ HZ rfl rfl rfl L1.out L2.out L3.out ?_); intro w3 HG1 hb3 hz3 ho3; refine Hid.out ?_)
  refine Lib.hid ?_
  have hl3 : Low w1 w3 := Below.trans hl2 hb3
  replace hL := hL.trans hl3
  replace HB := Lib.hid (HB.out.below' hl3 hl3.size)
  replace HG1 := Lib.hid HG1
  obtain ⟨g1, hg1⟩ : ∃ g, g = w1.heap.size := ⟨_, rfl⟩
  rw [← hg1] at HG1 ⊢
  clear HZ hl2 hb3 hz2 hz3 ho3 hl3 hg1
  go_wp2_with fail
  refine (rpkparse_any A n c xs w3 hn hc hc2 HB.out).mono ?_
  intro e w4 hq
  obtain ⟨q, rfl, hqv, hqk, hB4, m1, m2, m3⟩ := hq.lens
  rw [← HER.out]
  have HQV := Lib.hid hqv
  have M1 := Lib.hid m1
  have M2 := Lib.hid m2
  have M3 := Lib.hid m3
  have hl4 : Low w3 w4 := hB4
  replace hL := hL.trans hl4
  replace HG1 := Lib.hid (HG1.out.below hl4 HG1.out.lt)
  have hlt2 := HG1.out.lt
  clear hq hqv hqk hB4 m1 m2 m3 HB hl4
  unfold pqV
  go_wp2_with ((with_reducible refine wpList_alloc_pq pkt_ref rfl rfl ?_); intro w5 HZ hl5 hz5; refine Hid.out ?_)
  refine Lib.hid ?_
  go_wp2_with ((refine wpList_store_pq pkt_ref rfl (.tmp 5) (.tmp 17) rfl w4.heap.size rfl q rfl zeroQ HZ rfl rfl rfl M1.out M2.out M3.out ?_); intro w6 HG2 hb6 hz6 ho6; refine Hid.out ?_)
  refine Lib.hid ?_
  have hl6 : Low w4 w6 := Below.trans hl5 hb6
  replace hL := hL.trans hl6
  replace HG1 := Lib.hid (HG1.out.below hl6 hlt2)
  replace HG2 := Lib.hid HG2
  obtain ⟨g2, hg2⟩ : ∃ g, g = w4.heap.size := ⟨_, rfl⟩
  rw [← hg2] at HG2 ⊢
  clear HZ hl5 hb6 hz5 hz6 ho6 hl6 hg2 hlt2
  go_wp2_with (with_reducible refine wpList_load_pq pkt_own rfl (.tmp 3) rfl g1 rfl p HG1.out L1.out L2.out L3.out ?_)
  refine (fof_any p w6 L1.out L2.out L3.out).mono ?_
  rintro e w7 ⟨rfl, hl⟩
  have hs := of_same (p := p) (q := q) (HPV.out.trans HQV.out.symm)
  rw [hs.1, hs.2]
  have HFO : Hid ((ofF q).s.length = 16 ∧ (ofF q).d.length = 16) := Lib.hid (by unfold ofF; split; exact ⟨M1.out, M3.out⟩; exact ⟨rfl, rfl⟩)
  replace hl : Low w6 w7 := hl
  replace hL := hL.trans hl
  have hg2l := HG2.out.lt
  replace HG2 := Lib.hid (HG2.out.below hl HG2.out.lt)
  have hlt2 := HG2.out.lt
  clear hl HG1 hs hg2l HPV L1 L2 L3
  obtain ⟨F, hF⟩ : ∃ F, F = ofF q := ⟨_, rfl⟩
  rw [← hF] at HFO ⊢
  replace hF := Lib.hid hF
  unfold fwV
  go_wp2_with ((with_reducible refine wpList_alloc_fw rfl rfl ?_); intro w8 HZ hl8 hz8; refine Hid.out ?_)
  refine Lib.hid ?_
  go_wp2_with ((refine wpList_store_fw rfl (.tmp 7) (.tmp 22) rfl w7.heap.size rfl F rfl zeroF HZ rfl rfl HFO.out.1 HFO.out.2 ?_); intro w9 HG3 hb9 hz9 ho9; refine Hid.out ?_)
  refine Lib.hid ?_
  have hl9 : Low w7 w9 := Below.trans hl8 hb9
  replace hL := hL.trans hl9
  replace HG2 := Lib.hid (HG2.out.below hl9 hlt2)
  replace HG3 := Lib.hid HG3
  obtain ⟨g3, hg3⟩ : ∃ g, g = w7.heap.size := ⟨_, rfl⟩
  rw [← hg3] at HG3 ⊢
  clear HZ hl8 hb9 hz8 hz9 ho9 hl9 hg3 hlt2
  have HLV := Lib.hid (fllives_any w9 (HPW.out.low hL) (HT.out.low hL))
  by_cases hk : er = 0 ∧ q.k = 6
  · obtain ⟨h0, h6⟩ := hk
    rw [show F = ⟨q.h.s, q.t.sp, q.f, q.t.dp⟩ by rw [hF.out]; unfold ofF; rw [if_pos h6]] at HG3 HFO
    clear hF
    have c60 : w9.cell? ⟨g2, 60, none⟩ = some (.int .i64 6) := by rw [← h6]; exact rangeAt_one (HG2.out.kd M1.out M2.out M3.out)
    have c61 : w9.cell? ⟨g2, 61, none⟩ = some (.int .i64 q.t.sp) := HG2.out.tc M1.out M2.out M3.out 0 _ rfl
    have c62 : w9.cell? ⟨g2, 62, none⟩ = some (.int .i64 q.t.dp) := HG2.out.tc M1.out M2.out M3.out 1 _ rfl
    have HRS := Lib.hid (HG2.out.src M1.out)
    have HRF := Lib.hid (HG2.out.fin M1.out M2.out M3.out)
    rw [h0, h6]
    clear h0 h6 HG2
    obtain ⟨E, hE⟩ : ∃ E : Fw, E = ⟨q.h.s, q.t.sp, q.f, q.t.dp⟩ := ⟨_, rfl⟩
    rw [← hE] at HG3 HFO
    have he := eq_flow E E HFO.out.1 HFO.out.2 HFO.out.1 HFO.out.2
    rw [eqFw_refl] at he
    replace hE := Lib.hid hE
    go_wp2_with (first
      | (with_reducible refine wpList_load_fw_g rfl (.tmp 7) rfl g3 rfl E HG3.out HFO.out.1 HFO.out.2 ?_)
      | (with_reducible refine wpList_load_atF_g rfl (.tmp 45) rfl g2 5 rfl q.h.s M1.out HRS.out ?_)
      | (with_reducible refine wpList_load_atF_g rfl (.tmp 50) rfl g2 44 rfl q.f M3.out HRF.out ?_)
      | ((refine wpList_build_fw_g rfl (.tmp 46) (.tmp 49) (.tmp 51) (.tmp 54) rfl q.h.s q.f q.t.sp q.t.dp rfl rfl rfl rfl M1.out M3.out ?_); rw [← hE.out]; refine Hid.out ?_))
    refine Lib.hid ?_
    go_wp2_with fail
    refine HLV.out.mono ?_
    rintro e w10 ⟨rfl, hl⟩
    replace hL := hL.trans hl
    clear hl
    go_wp2_with fail
    go_ret
    exact ⟨rfl, hL⟩
  · have hq6 : q.k ≠ 6 := by
      intro h6
      have h0 : er ≠ 0 := fun h0 => hk ⟨h0, h6⟩
      have e1 : q.v = zeroPb := by rw [HQV.out]; unfold pkB; rw [if_neg (by rw [← HER.out]; exact h0)]
      have e2 : q.k = 0 := congrArg Pb.k e1
      omega
    have hF0 : F = zeroF := by rw [hF.out]; unfold ofF; rw [if_neg hq6]
    have hk2 : (q.k != 6) = true := by simpa using hq6
    have hk3 : (q.k == 6) = false := by simpa using hq6
    rw [decide_eq_false hq6]
    clear hk hF
    have c60 : w9.cell? ⟨g2, 60, none⟩ = some (.int .i64 q.k) := rangeAt_one (HG2.out.kd M1.out M2.out M3.out)
    clear HG2 HQV HFO M1 M2 M3
    replace HG3 : Hid (BlkF w9 g3 zeroF) := hF0 ▸ HG3
    obtain ⟨E, hE⟩ : ∃ E : Fw, E = zeroF := ⟨_, rfl⟩
    have hE1 : E.s.length = 16 := by rw [hE]; rfl
    have hE2 : E.d.length = 16 := by rw [hE]; rfl
    rw [← hE] at HG3
    have he := eq_flow E E hE1 hE2 hE1 hE2
    rw [eqFw_refl] at he
    replace hE := Lib.hid hE
    by_cases h0 : er = 0
    · subst h0
      go_wp2_with (first
        | (with_reducible refine wpList_load_fw_g rfl (.tmp 7) rfl g3 rfl E HG3.out hE1 hE2 ?_)
        | (with_reducible refine wpList_build_exZ_g rfl rfl E hE.out ?_))
      refine HLV.out.mono ?_
      rintro e w10 ⟨rfl, hl⟩
      replace hL := hL.trans hl
      clear hl
      go_wp2_with fail
      go_ret
      exact ⟨rfl, hL⟩
    · have k2 : (er != 0) = true := by simpa using h0
      have k3 : (er == 0) = false := by simpa using h0
      go_wp2_with (first
        | (with_reducible refine wpList_load_fw_g rfl (.tmp 7) rfl g3 rfl E HG3.out hE1 hE2 ?_)
        | (with_reducible refine wpList_build_exZ_g rfl rfl E hE.out ?_))
      refine HLV.out.mono ?_
      rintro e w10 ⟨rfl, hl⟩
      replace hL := hL.trans hl
      clear hl
      go_wp2_with fail
      go_ret
      exact ⟨rfl, hL⟩
end Go.Proofs.YtjafjapnmffohaaGreatDoor
