/- What the program's own Parse of packets tells. Condition: at most 2^47 bytes. -/
import Derived.Test.YtjafjapnmffohaaGreatDoorPkR
set_option maxRecDepth 100000
namespace Go.Proofs.YtjafjapnmffohaaGreatDoor
open Go.RowKit
set_option linter.unusedVariables false

theorem run_build_pdK (a b c e f s0 s1 s2 s3 s4 s5 s6 s7 s8 s9 s10 s11 s12 s13 s14 s15 d0 d1 d2 d3 d4 d5 d6 d7 d8 d9 d10 d11 d12 d13 d14 d15 : Int) (w : World) :
    (Instr.build 38 #[(0, .agg (headC ⟨a, b, c, e, f, [s0, s1, s2, s3, s4, s5, s6, s7, s8, s9, s10, s11, s12, s13, s14, s15], [d0, d1, d2, d3, d4, d5, d6, d7, d8, d9, d10, d11, d12, d13, d14, d15]⟩).toArray), (3, .agg (cellsB [d0, d1, d2, d3, d4, d5, d6, d7, d8, d9, d10, d11, d12, d13, d14, d15]).toArray)]).run Tryz.prog w = .ok (.agg (pqC (destQ ⟨a, b, c, e, f, [s0, s1, s2, s3, s4, s5, s6, s7, s8, s9, s10, s11, s12, s13, s14, s15], [d0, d1, d2, d3, d4, d5, d6, d7, d8, d9, d10, d11, d12, d13, d14, d15]⟩)).toArray) w := by kernel_rfl
theorem run_build_pd (h : Hd) (hs : h.s.length = 16) (hd : h.d.length = 16) (w : World) :
    (Instr.build 38 #[(0, .agg (headC h).toArray), (3, .agg (cellsB h.d).toArray)]).run Tryz.prog w = .ok (.agg (pqC (destQ h)).toArray) w := by
  obtain ⟨a, b, c, e, f, s, d⟩ := h
  obtain ⟨s0, s1, s2, s3, s4, s5, s6, s7, s8, s9, s10, s11, s12, s13, s14, s15, rfl⟩ := list16 s hs
  obtain ⟨d0, d1, d2, d3, d4, d5, d6, d7, d8, d9, d10, d11, d12, d13, d14, d15, rfl⟩ := list16 d hd
  exact run_build_pdK _ _ _ _ _ _ _ _ _ _ _ _ _ _ _ _ _ _ _ _ _ _ _ _ _ _ _ _ _ _ _ _ _ _ _ _ _ w
theorem wpList_build_pd {ops : Array Oper} {rest : List Oper} {o : Oper} {a : Act} {w : World} {Q : Exit → Act → World → Prop} (hgd : o.guard = none) (x0 x1 : Operand) (ho : o.op = .build 38 #[(0, x0), (3, x1)])
    (h : Hd) (e0 : a.eval x0 = .agg (headC h).toArray) (e1 : a.eval x1 = .agg (cellsB h.d).toArray) (hs : h.s.length = 16) (hd : h.d.length = 16)
    (hk : wpList Tryz.prog ops Q rest (a.put o.dst (.agg (pqC (destQ h)).toArray)) w) : wpList Tryz.prog ops Q (o :: rest) a w :=
  wpList_plain hgd fun K hK => by
    unfold Oper.wp execOp
    simp only [ho, List.map_toArray, List.map_cons, List.map_nil, e0, e1, Sem.run_bind, run_build_pd h hs hd, Result.andThen_ok, Sem.run_pure]
    exact hK _ _ hk
theorem BlkV.atDstK {w : World} {g : Nat} {h : Hd} (hb : BlkH w g h) (hs : h.s.length = 16) : w.rangeAt g 21 (cellsB h.d) :=
  BlkV.rangeAtK (a := [.int .i64 h.cl, .int .i64 h.lb, .int .i64 h.ln, .int .i64 h.nx, .int .i64 h.hp] ++ cellsB h.s) (b := cellsB h.d) (c := []) (by
    have e : headC h = ([.int .i64 h.cl, .int .i64 h.lb, .int .i64 h.ln, .int .i64 h.nx, .int .i64 h.hp] ++ cellsB h.s) ++ (cellsB h.d ++ []) := by simp [headC]
    rw [← e]
    exact hb) (by simp [cellsB_length, hs])
theorem wpList_load_pt {ops : Array Oper} {rest : List Oper} {o : Oper} {a : Act} {w : World} {Q : Exit → Act → World → Prop} (hgd : o.guard = none) (x : Operand) (ho : o.op = .load 55 x) (g : Nat) (hx : a.eval x = .pointer (some ⟨g, 0, none⟩)) (p : Pt) (hb : BlkV w 55 g (ptC p))
    (hk : wpList Tryz.prog ops Q rest (a.put o.dst (.agg (ptC p).toArray)) w) : wpList Tryz.prog ops Q (o :: rest) a w :=
  wpList_load_row hgd 55 x ho g hx _ (ptC p).toArray (0, 0) _ hb Tryz.underlying55 rfl (by rw [part_size]; rfl) hk
theorem exec_load_ptP {f : Operand → Value} {dd : Option Tmp} {x : Operand} {ty : TypeId} {pos : String} {gd : Option (Nat × Bool)} {w : World} {b o : Nat} {p : Pt} (hx : f x = .pointer (some ⟨b, o, none⟩))
    (h0 : w.cell? ⟨b, o, none⟩ = some (.int .i64 p.k)) (h1 : w.cell? ⟨b, o + 1, none⟩ = some (.int .i64 p.a)) (h2 : w.cell? ⟨b, o + 2, none⟩ = some (.int .i64 p.l)) :
    (execOp f ⟨dd, .load 55 x, ty, pos, #[], gd⟩).run Tryz.prog w = .ok (.value (.agg (ptC p).toArray)) w := by
  have hr : w.rangeAt b o (ptC p) := fun j v hv => by
    match j, hv with
    | 0, hv => exact h0.trans hv
    | 1, hv => exact h1.trans hv
    | 2, hv => exact h2.trans hv
  have hl := run_loadVar_mid (P := Tryz.prog) w b o 55 (ptC p) _ hr Tryz.underlying55 rfl (by rw [part_size]; rfl)
  unfold execOp
  simp only [hx, Instr.loadAt, Instr.sureAddr, Sem.run_bind, Sem.run_pure, Result.andThen_ok, hl]
theorem wp_load_pq {T : TypeId} (hT : PkT T) {o : Oper} {a : Act} {w : World} {K : Act → World → Prop} {Q : Exit → Act → World → Prop} (x : Operand) (ho : o.op = .load T x) (g : Nat) (hx : a.eval x = .pointer (some ⟨g, 0, none⟩)) (p : Pq) (hb : BlkQ T w g p) (hs : p.h.s.length = 16) (hd : p.h.d.length = 16) (hf : p.f.length = 16)
    (hk : K (a.put o.dst (.agg (pqC p).toArray)) w) : o.wp Tryz.prog a w K Q := by
  obtain ⟨fs, hu⟩ := hT.und
  exact wp_load_row T x ho g hx _ (pqC p).toArray (0, 0) _ hb hu rfl (by rw [hT.size]; simp [pqC_len hs hd hf]) hk
theorem wp_store_pq {T : TypeId} (hT : PkT T) {o : Oper} {a : Act} {w : World} {K : Act → World → Prop} {Q : Exit → Act → World → Prop} (x y : Operand) (ho : o.op = .store T x y) (g : Nat) (hx : a.eval x = .pointer (some ⟨g, 0, none⟩)) (p : Pq) (hy : a.eval y = .agg (pqC p).toArray) (old : Pq) (hb : BlkQ T w g old)
    (hos : old.h.s.length = 16) (hod : old.h.d.length = 16) (hof : old.f.length = 16) (hs : p.h.s.length = 16) (hd : p.h.d.length = 16) (hf : p.f.length = 16)
    (hk : ∀ w', BlkQ T w' g p → Below g w w' → w'.heap.size = w.heap.size → (∀ k : Nat, k ≠ g → w'.heap[k]? = w.heap[k]?) → K (a.put o.dst undef) w') : o.wp Tryz.prog a w K Q :=
  wp_store_row T x y ho g _ hx hy _ _ hb (by rw [hT.size]; simp [pqC_len hs hd hf]) (by simp [pqC_len hs hd hf, pqC_len hos hod hof]) (pqC_one p)
    (hk _ (BlkV.setRow hb _) (low_setRow _ _ _ (Nat.le_refl _)) (by simp) (fun k hk => by simp [World.setRow, Array.getElem?_modify, Ne.symm hk]))
theorem GivesPk.own6 {w w' : World} {xs bs s f : List Int} {q : Pq} {t : Sg} {A : Option Addr} {n c : Nat} {h : Hd} {i : Bool} {r : Rb} (hv : q.v = ⟨h, i, r, f, 0, zeroSb, zeroMb, []⟩) (ht : t.v = (parseS bs).1) (hE : pkE xs = 0)
    (hS : pkSays xs = ⟨h, i, r, f, 6, upT 6 bs, upM s f 6 bs, bs⟩) (hok : (setTc t (setKd 6 (setBd A n c bs q))).ok w' w'.heap.size) (hB : Below w.heap.size w w') :
    GivesPk w xs (.returned (.tuple #[pqV (setTc t (setKd 6 (setBd A n c bs q))), .int .i64 0])) w' := GivesPk.yes6 hv ht hE hS hok hB
theorem GivesPk.own58 {w w' : World} {xs bs s f : List Int} {q : Pq} {m : Mg} {A : Option Addr} {n c : Nat} {h : Hd} {i : Bool} {r : Rb} (hv : q.v = ⟨h, i, r, f, 0, zeroSb, zeroMb, []⟩) (hm : m.v = parseM s f bs) (hE : pkE xs = 0)
    (hS : pkSays xs = ⟨h, i, r, f, 58, upT 58 bs, upM s f 58 bs, bs⟩) (hok : (setMs m (setKd 58 (setBd A n c bs q))).ok w' w'.heap.size) (hB : Below w.heap.size w w') :
    GivesPk w xs (.returned (.tuple #[pqV (setMs m (setKd 58 (setBd A n c bs q))), .int .i64 0])) w' := GivesPk.yes58 hv hm hE hS hok hB

set_option maxRecDepth 100000 in
set_option maxHeartbeats 6400000 in
theorem pkparse_err (A : Option Addr) (n c : Nat) (xs : List Int) (w : World) (hn : n ≤ 140737488351232) (hc : n ≤ c) (hc2 : c ≤ 9223372036854775807) (hb : Bs w w.heap.size A n xs) (h0 : hdE xs ≠ 0) :
    Calls Tryz.prog 4 #[.slice A n c] w (GivesPk w xs) := by
  have HB := Lib.hid hb
  have HE := Lib.hid (pk_none (hdE_pre h0) h0)
  have HNE := Lib.hid h0
  clear hb h0
  go_enter Tryz.func4, Tryz.ntmps4
  go_wp2_with ((with_reducible refine wpList_alloc_pq pkt_own rfl rfl ?_); intro w1 HR hL hz1; refine Hid.out ?_)
  refine Lib.hid ?_
  replace HR := Lib.hid HR
  clear hz1
  go_wp2_with fail
  refine (headers_any A n c xs w1 hn hc hc2 (HB.out.below' hL hL.size)).mono ?_
  rintro e w3 ⟨⟨h, pA, pn, pc, rfl, ⟨hs, hd⟩, -⟩, hl⟩
  have hl3 : Low w1 w3 := hl
  replace HR := Lib.hid (HR.out.below hl3 HR.out.lt)
  replace hL := hL.trans hl3
  have HS := Lib.hid hs
  have HD := Lib.hid hd
  clear hl hl3 hs hd
  generalize hdE xs = er at *
  unfold headV
  go_wp2_with ((with_reducible refine wpList_alloc_v rfl 26 rfl (headC zeroH) (by kernel_rfl) ?_); intro w4 HY hl4 hz4; refine Hid.out ?_)
  refine Lib.hid ?_
  have HY4 : Hid (BlkH w4 w3.heap.size zeroH) := Lib.hid HY
  have hlr := HR.out.lt
  go_wp2_with ((refine wpList_store_headB rfl (.tmp 4) (.tmp 16) rfl w3.heap.size rfl h rfl zeroH HY4.out rfl rfl HS.out HD.out ?_); intro w5 HG5 hb5 hz5 ho5; refine Hid.out ?_)
  refine Lib.hid ?_
  have hl5 : Low w3 w5 := Below.trans hl4 hb5
  replace HR := Lib.hid (HR.out.below hl5 HR.out.lt)
  replace hL := hL.trans hl5
  clear HY HY4 hl4 hz4 hb5 hz5 ho5 hl5 HG5
  have hne : (er != 0) = true := by simpa using HNE.out
  go_wp2_with (first
    | (with_reducible refine wpList_build0 (pqC zeroQ) build0_pk rfl rfl ?_)
    | ((refine wpList_store_pq pkt_own rfl (.tmp 2) (.tmp 21) rfl w.heap.size rfl zeroQ rfl zeroQ HR.out rfl rfl rfl rfl rfl rfl ?_); intro w14 HG hb14 hz14 ho14; refine Hid.out ?_))
  refine Lib.hid ?_
  replace HG := Lib.hid HG
  go_wp2_with fail
  exact ret_pq pkt_own Tryz.results4 rfl rfl HG.out rfl rfl rfl (GivesPk.no HE.out HNE.out (Below.trans hL hb14)) rfl

set_option maxRecDepth 100000 in
set_option maxHeartbeats 12800000 in
theorem pkparse_plain (A : Option Addr) (n c : Nat) (xs : List Int) (w : World) (hn : n ≤ 140737488351232) (hc : n ≤ c) (hc2 : c ≤ 9223372036854775807) (hb : Bs w w.heap.size A n xs) (h0 : hdE xs = 0) (hi : rtIs (pkW xs).1 = false) :
    Calls Tryz.prog 4 #[.slice A n c] w (GivesPk w xs) := by
  obtain ⟨hx1500, hxe, hx40, hxln, hx2, hxl, hxp⟩ := hdE_zero h0
  obtain ⟨hw1, hw2, m, hum, hm40, hmn⟩ := pkW_zero hx40 hx2
  have hlenx := hb.len
  have hleft := walkR_left xs _ 8 _ 40 hx40 hw1
  have HUA := Lib.hid (show (lastP (pkW xs).1).a = m from hum)
  have HUL := Lib.hid (show (lastP (pkW xs).1).l = ((n - m : Nat) : Int) by
    rw [hleft, HUA.out, hlenx]
    omega)
  have HPRE := Lib.hid hxp
  have HLAT := Lib.hid hxl
  have HIS := Lib.hid hi
  have hp0l : 0 < (pkW xs).1.length := List.length_pos_iff.2 hw2
  have hp9l : (pkW xs).1.length ≤ 9 := walkL_len xs (getL xs).nx 40
  rw [hlenx] at hx1500 hx40 hmn
  have HB := Lib.hid hb
  have H0 := Lib.hid h0
  have hx : (pkUp xs) = lastP (pkW xs).1 := rfl
  have HBODY := Lib.hid (show pkBody xs = xs.drop m by unfold pkBody; rw [hx, HUA.out, Int.toNat_natCast])
  have HFIN := Lib.hid (show pkFin xs = rtFin xs (pkW xs).1 (getL xs).d from rfl)
  have HSAYS := Lib.hid (show pkSays xs = ⟨getL xs, rtIs (pkW xs).1, rtR xs (pkW xs).1, rtFin xs (pkW xs).1 (getL xs).d, (lastP (pkW xs).1).k, upT (lastP (pkW xs).1).k (xs.drop m), upM (getL xs).s (rtFin xs (pkW xs).1 (getL xs).d) (lastP (pkW xs).1).k (xs.drop m), xs.drop m⟩ by
    unfold pkSays
    rw [HBODY.out, HFIN.out, hx])
  have HPKE0 := Lib.hid (show preE xs = 0 → pkE xs = upE (getL xs).s (rtFin xs (pkW xs).1 (getL xs).d) (lastP (pkW xs).1).k (xs.drop m) from fun e => by
    unfold pkE
    rw [if_pos e, HBODY.out, HFIN.out, hx])
  obtain ⟨b, o, rfl, -⟩ := hb.mem (by omega)
  clear hb h0 hi hxe hxln hx2 hxl hxp hw1 hw2 hum hleft hlenx hx HBODY HFIN
  obtain ⟨ps, hps⟩ : ∃ ps, ps = (pkW xs).1 := ⟨_, rfl⟩
  rw [← hps] at HUA HUL HPRE HLAT HIS hp0l hp9l HSAYS HPKE0
  have HPSE := Lib.hid hps
  clear hps
  go_enter Tryz.func4, Tryz.ntmps4
  go_wp2_with ((with_reducible refine wpList_alloc_pq pkt_own rfl rfl ?_); intro w1 HR hL hz1; refine Hid.out ?_)
  refine Lib.hid ?_
  replace HR := Lib.hid HR
  clear hz1
  go_wp2_with fail
  refine (headers_any (some ⟨b, o, none⟩) n c xs w1 hn hc hc2 (HB.out.below' hL hL.size)).mono ?_
  rintro e w3 ⟨⟨h, pA, pn, pc, rfl, -, hz⟩, hl⟩
  obtain ⟨hhl, hpn, hps⟩ := hz H0.out
  rw [← HPSE.out] at hpn hps
  rw [H0.out]
  have hl3 : Low w1 w3 := hl
  have HHO := Lib.hid (show h.ok by
    rw [hhl]
    have e := getH_ok HB.out.all
    have e2 : getH xs = getL xs := by
      rcases getE_cases xs with ⟨g1, e1, e2⟩ | ⟨g1, g2, e1, e2⟩ | ⟨g1, g2, e1, e2⟩
      · exact absurd (hdE_zero H0.out).2.1 (by rw [e1]; omega)
      · exact e2
      · exact absurd (hdE_zero H0.out).2.1 (by rw [e1]; omega)
    rwa [e2] at e)
  rw [← hhl] at HPRE HSAYS HPKE0
  have HS := Lib.hid HHO.out.s
  have HD := Lib.hid HHO.out.d
  have HPS := Lib.hid hps
  have HPN := Lib.hid hpn
  have hp0 : 0 < pn := by omega
  have hp9 : pn ≤ 9 := by omega
  replace HR := Lib.hid (HR.out.below hl3 HR.out.lt)
  replace hL := hL.trans hl3
  clear hl hl3 hz hps hhl hpn hp0l hp9l H0
  unfold headV
  go_wp2_with ((with_reducible refine wpList_alloc_v rfl 26 rfl (headC zeroH) (by kernel_rfl) ?_); intro w4 HY hl4 hz4; refine Hid.out ?_)
  refine Lib.hid ?_
  have HY4 : Hid (BlkH w4 w3.heap.size zeroH) := Lib.hid HY
  have hlr := HR.out.lt
  go_wp2_with ((refine wpList_store_headB rfl (.tmp 4) (.tmp 16) rfl w3.heap.size rfl h rfl zeroH HY4.out rfl rfl HS.out HD.out ?_); intro w5 HG5 hb5 hz5 ho5; refine Hid.out ?_)
  refine Lib.hid ?_
  have hl5 : Low w3 w5 := Below.trans hl4 hb5
  replace HR := Lib.hid (HR.out.below hl5 HR.out.lt)
  replace HPS := Lib.hid (HPS.out.below hl5)
  replace hL := hL.trans hl5
  obtain ⟨gH, hgH⟩ : ∃ g, g = w3.heap.size := ⟨_, rfl⟩
  rw [← hgH] at HG5 HPS hlr ⊢
  have HGH : Hid (BlkH w5 gH h) := Lib.hid HG5
  clear HG5 HY HY4 hl4 hz4 hb5 hz5 ho5 hl5 hgH
  have HDST := Lib.hid (HGH.out.atDstK HS.out)
  have hlh := HGH.out.lt
  go_wp2_with (first
    | (with_reducible refine wpList_load_head rfl (.tmp 4) rfl gH rfl h HGH.out HS.out HD.out ?_)
    | (with_reducible refine wpList_load_at rfl (.tmp 24) rfl gH 21 rfl h.d HD.out HDST.out ?_)
    | (refine wpList_build_pd rfl (.tmp 23) (.tmp 25) rfl h rfl rfl HS.out HD.out ?_)
    | ((with_reducible refine wpList_alloc_pq pkt_own rfl rfl ?_); intro w6 HY hl6 hz6; refine Hid.out ?_))
  refine Lib.hid ?_
  have HQ1 : Hid ((destQ h).h.s.length = 16) := HS
  have HQ2 : Hid ((destQ h).h.d.length = 16) := HD
  have HQ3 : Hid ((destQ h).f.length = 16) := HD
  go_wp2_with ((refine wpList_store_pq pkt_own rfl (.tmp 7) (.tmp 26) rfl w5.heap.size rfl (destQ h) rfl zeroQ HY rfl rfl rfl HQ1.out HQ2.out HQ3.out ?_); intro w7 HG7 hb7 hz7 ho7; refine Hid.out ?_)
  refine Lib.hid ?_
  have hl7 : Low w5 w7 := Below.trans hl6 hb7
  replace HR := Lib.hid (HR.out.below hl7 HR.out.lt)
  replace HGH : Hid (BlkH w7 gH h) := Lib.hid (HGH.out.below hl7 HGH.out.lt)
  replace HPS := Lib.hid (HPS.out.below (hl7.mono (by omega)))
  replace hL := hL.trans hl7
  obtain ⟨gP, hgP⟩ : ∃ g, g = w5.heap.size := ⟨_, rfl⟩
  rw [← hgP] at HG7 hlh ⊢
  have HQB0 := Lib.hid HG7
  have hlp : gP < w7.heap.size := HG7.lt
  clear HG7 HY hl6 hz6 hb7 hz7 ho7 hl7 hgP HDST
  obtain ⟨pb, po, rfl, hpb, hpc0⟩ := HPS.out.mem hp0
  obtain ⟨k0, k1, k2⟩ := hpc0 0 hp0
  rw [Nat.zero_mul, Nat.add_zero] at k0 k1 k2
  obtain ⟨p0, hp0e⟩ : ∃ p0, p0 = ps.getD 0 zeroP := ⟨_, rfl⟩
  rw [← hp0e] at k0 k1 k2
  have HP0E := Lib.hid hp0e
  have hp0i : (0 : Int) < pn := by omega
  clear hpc0 hp0e
  have hk43 : (p0.k == 43) = false := by
    have := HIS.out
    unfold rtIs at this
    rw [← HP0E.out] at this
    simpa using this
  clear k1 k2
  go_wp2_with fail
  clear k0 hk43
  have HQB : Hid (BlkQ 38 w7 gP (destQ h)) := HQB0
  have HPRE0 := Lib.hid (show preE xs = 0 by rw [HPRE.out]; exact rtErr_no HLAT.out HIS.out)
  have HQV := Lib.hid (show (destQ h).v = ⟨h, rtIs ps, rtR xs ps, rtFin xs ps h.d, 0, zeroSb, zeroMb, []⟩ by unfold rtR rtFin; rw [HIS.out]; rfl)
  have HQO : Hid ((destQ h).ok w7 w7.heap.size) := Lib.hid ⟨HHO.out, zeroSr_ok _ _, HD.out, HHO.out.vd, by show i64ok 0; unfold i64ok; omega, zeroS_ok _ _, zeroM_ok _ _, by show 0 ≤ _; omega, Bs.nil _ _ _⟩
  have HQRF : Hid ((destQ h).r.from_ w7.heap.size) := Lib.hid (zeroSr_from _)
  obtain ⟨lo, hlo⟩ : ∃ lo, lo = w7.heap.size := ⟨_, rfl⟩
  rw [← hlo] at HQRF
  have hlo2 : gP < lo := by omega
  have LQ1 := HQ1
  have LQ2 := HQ2
  have LQ3 := HQ3
  clear HQ1 HQ2 HQ3 HQB0 hlo
  obtain ⟨q, hq⟩ : ∃ q, q = destQ h := ⟨_, rfl⟩
  rw [← hq] at HQB HQV HQO HQRF LQ1 LQ2 LQ3
  clear hq
  obtain ⟨y0, hy0⟩ : ∃ y, y = w7 := ⟨_, rfl⟩
  rw [← hy0] at HR HGH HQB HQO HPS hL hlp ⊢
  clear hy0
  have HSAY := HSAYS
  have HPKE := Lib.hid (HPKE0.out HPRE0.out)
  clear HPRE HPRE0 HPKE0 HSAYS
  go_wp2_with fail
  refine (upper_some (some ⟨pb, po, none⟩) pn pc ps y0 (by omega) hp0 (HPS.out.more (by omega))).mono ?_
  rintro e y1 ⟨rfl, hl⟩
  have hlast : ps.getD (pn - 1) zeroP = lastP ps := by unfold lastP; rw [HPN.out]
  rw [hlast]
  obtain ⟨pl, hpl⟩ : ∃ p, p = lastP ps := ⟨_, rfl⟩
  rw [← hpl] at HUA HUL HSAY HPKE ⊢
  have hl1 : Low y0 y1 := hl
  replace HR := Lib.hid (HR.out.below hl1 HR.out.lt)
  replace HGH : Hid (BlkH y1 gH h) := Lib.hid (HGH.out.below hl1 HGH.out.lt)
  replace HQB := Lib.hid (HQB.out.below hl1 HQB.out.lt)
  replace HQO := Lib.hid (HQO.out.low hl1)
  replace hL := hL.trans hl1
  replace hlp : gP < y1.heap.size := Nat.lt_of_lt_of_le hlp hl1.size
  clear hl hl1 hlast hpl HPS
  unfold ptV
  go_wp2_with ((with_reducible refine wpList_alloc_v rfl 55 rfl (ptC zeroP) (by kernel_rfl) ?_); intro y2 HY hl2 hz2; refine Hid.out ?_)
  refine Lib.hid ?_
  go_wp2_with ((refine wpList_store_vO rfl 55 (.tmp 8) (.tmp 49) rfl y1.heap.size rfl (ptC pl) rfl _ (ptC zeroP) HY rfl (by rw [part_size]; rfl) (by simp [ptC, Value.oneCell']) ?_); intro y3 HG3 hb3 hz3 ho3; refine Hid.out ?_)
  refine Lib.hid ?_
  have hl3 : Low y1 y3 := Below.trans hl2 hb3
  replace HR := Lib.hid (HR.out.below hl3 HR.out.lt)
  replace HGH : Hid (BlkH y3 gH h) := Lib.hid (HGH.out.below hl3 HGH.out.lt)
  replace HQB := Lib.hid (HQB.out.below hl3 HQB.out.lt)
  replace HQO := Lib.hid (HQO.out.low hl3)
  replace hL := hL.trans hl3
  obtain ⟨gU, hgU⟩ : ∃ g, g = y1.heap.size := ⟨_, rfl⟩
  rw [← hgU] at HG3 hlp ⊢
  have HUP := Lib.hid HG3
  have hlu : gU < y3.heap.size := HG3.lt
  clear HG3 HY hl2 hz2 hb3 hz3 ho3 hl3 hgU
  have ku : y3.cell? ⟨gU, 0, none⟩ = some (.int .i64 pl.k) := HUP.out.cell 0
  obtain ⟨lk, hlk⟩ : ∃ k, k = pl.k := ⟨_, rfl⟩
  rw [← hlk] at HSAY HPKE ku
  clear hlk
  by_cases h6 : lk = 6
  · subst h6
    go_wp2_with fail
    refine (blank6_any y3).mono ?_
    rintro e y4 ⟨rfl, hS4, hl⟩
    have hl4 : Low y3 y4 := hl
    replace HR := Lib.hid (HR.out.below hl4 HR.out.lt)
    replace HGH : Hid (BlkH y4 gH h) := Lib.hid (HGH.out.below hl4 HGH.out.lt)
    replace HQB := Lib.hid (HQB.out.below hl4 HQB.out.lt)
    have HQO4 := Lib.hid (HQO.out.below' hl4 (Nat.le_refl _))
    replace HUP := Lib.hid (HUP.out.below hl4 hlu)
    replace hL := hL.trans hl4
    have hs4 := hl4.size
    have hs4b := hS4.lt
    obtain ⟨gS, hgS⟩ : ∃ g, g = y3.heap.size := ⟨_, rfl⟩
    rw [← hgS] at hS4 hlu hs4b HQO4 ⊢
    have HSG := Lib.hid hS4
    clear ku hl hl4 hS4 HQO hs4 hgS
    go_wp2_with ((with_reducible refine wpList_load_pt rfl (.tmp 8) rfl gU rfl pl HUP.out ?_); refine Hid.out ?_)
    refine Lib.hid ?_
    go_wp2_with fail
    refine (bytesOf_any b o n c m (n - m) pl y4 HUA.out HUL.out (by omega) hc hc2).mono ?_
    rintro e y5 ⟨⟨A3, rfl, hA3⟩, hl⟩
    have hl5 : Low y4 y5 := hl
    replace HR := Lib.hid (HR.out.below hl5 HR.out.lt)
    replace HGH : Hid (BlkH y5 gH h) := Lib.hid (HGH.out.below hl5 HGH.out.lt)
    replace HQB := Lib.hid (HQB.out.below hl5 HQB.out.lt)
    replace HQO4 := Lib.hid (HQO4.out.below' (hl5.mono (by omega)) (Nat.le_refl _))
    replace HSG := Lib.hid (HSG.out.below hl5 hs4b)
    replace hL := hL.trans hl5
    have HBB := Lib.hid ((HB.out.cutFrom (A' := A3) hmn hA3).below' hL hL.size)
    have HA3 := Lib.hid hA3
    have hs5 : gS < y5.heap.size := HSG.out.lt
    clear hl hl5 HUP hA3
    have HSRC := Lib.hid (BlkV.atSrcK HGH.out)
    have HFNR : Hid (y5.rangeAt gP 44 (cellsB q.f)) := Lib.hid (HQB.out.fin LQ1.out LQ2.out LQ3.out)
    have HFA := Lib.hid HQO4.out.fa
    have HQF := Lib.hid (show q.f = rtFin xs ps h.d from congrArg Pb.f HQV.out)
    go_wp2_with (first
      | (with_reducible refine wpList_load_at rfl (.tmp 64) rfl gH 5 rfl h.s HS.out HSRC.out ?_)
      | (with_reducible refine wpList_load_at rfl (.tmp 66) rfl gP 44 rfl q.f LQ3.out HFNR.out ?_))
    refine (segread_any gS h.s q.f A3 (n - m) (c - m) (xs.drop m) y5 HS.out LQ3.out HHO.out.vs HFA.out (by omega) (by omega) (by omega) HBB.out HSG.out).mono ?_
    rintro e y6 ⟨rfl, hbl6, hs6, hrd⟩
    rw [← HQF.out] at HPKE HSAY
    rw [← HPKE.out] at hrd ⊢
    obtain ⟨e4, he4⟩ : ∃ e4, e4 = pkE xs := ⟨_, rfl⟩
    rw [← he4] at hrd ⊢
    have HE4 := Lib.hid he4.symm
    have HRD := Lib.hid hrd
    replace HR := Lib.hid (HR.out.below hbl6 (by omega))
    replace HQB := Lib.hid (HQB.out.below hbl6 (by omega))
    replace HQO4 := Lib.hid (HQO4.out.below' hbl6 (Nat.le_refl _))
    have hL6 : Low w y6 := Below.trans hL (hbl6.mono (by omega))
    have HBB6 := Lib.hid ((HB.out.cutFrom (A' := A3) hmn HA3.out).below' hL6 hL6.size)
    clear he4 hrd HSRC HFNR HSG HGH HBB HA3
    by_cases hz4 : e4 = 0
    · subst hz4
      obtain ⟨t, htb, htv, htk, htf⟩ := HRD.out rfl
      have HTB := Lib.hid htb
      have HTV := Lib.hid htv
      have HTK := Lib.hid htk
      have HTF := Lib.hid htf
      clear htb htv htk htf HRD
      go_wp2_with fail
      refine (sclone_any A3 (n - m) (c - m) (xs.drop m) y6 (by omega) HBB6.out).mono ?_
      rintro e y7 ⟨A7, c7, rfl, hO7, hl⟩
      have hl7 : Low y6 y7 := hl
      replace HR := Lib.hid (HR.out.below hl7 HR.out.lt)
      replace HQB := Lib.hid (HQB.out.below hl7 HQB.out.lt)
      replace HQO4 := Lib.hid (HQO4.out.below' (hl7.mono (by omega)) (Nat.le_refl _))
      replace HTB := Lib.hid (HTB.out.below hl7 HTB.out.lt)
      replace HTK := Lib.hid (HTK.out.low hl7)
      have hL7 := hL6.trans hl7
      have HO7 := Lib.hid hO7
      have hs7 := hl7.size
      obtain ⟨bs, hbs⟩ : ∃ bs, bs = xs.drop m := ⟨_, rfl⟩
      rw [← hbs] at HO7 HTV HSAY ⊢
      obtain ⟨bl, hbl⟩ : ∃ bl, bl = bs.length := ⟨_, rfl⟩
      rw [← hbl] at HO7 ⊢
      have hbln : bl ≤ 140737488351232 := by
        rw [hbl, hbs, List.length_drop, HB.out.len]
        omega
      clear hl hl7 hO7 hbl hbs HBB6 hbl6
      have k75 := rangeAt_one (HQB.out.bd LQ1.out LQ2.out LQ3.out)
      have f75 := HQB.out.room 75
      have ho8 := setCell_others y7 ⟨gP, 75, none⟩ (.slice A7 bl c7)
      have HQ8 : Hid (BlkQ 38 (y7.setCell ⟨gP, 75, none⟩ (.slice A7 bl c7)) gP (setBd A7 bl c7 bs q)) := Lib.hid (HQB.out.setBd LQ1.out LQ2.out LQ3.out A7 bl c7 bs)
      have hz8 : (y7.setCell ⟨gP, 75, none⟩ (.slice A7 bl c7)).heap.size = y7.heap.size := by simp
      have hL8 : Low w (y7.setCell ⟨gP, 75, none⟩ (.slice A7 bl c7)) := hL7.setCell (by show w.heap.size ≤ gP; omega) _
      have HR8 : Hid (BlkQ 38 (y7.setCell ⟨gP, 75, none⟩ (.slice A7 bl c7)) w.heap.size zeroQ) := Lib.hid (HR.out.stay (ho8 _ (by show w.heap.size ≠ gP; omega)))
      have HTB8 : Hid (BlkV (y7.setCell ⟨gP, 75, none⟩ (.slice A7 bl c7)) 92 gS (segC t)) := Lib.hid ((ho8 _ (by show gS ≠ gP; omega)).trans HTB.out)
      have HTK8 : Hid (t.ok (y7.setCell ⟨gP, 75, none⟩ (.slice A7 bl c7)) (y7.setCell ⟨gP, 75, none⟩ (.slice A7 bl c7)).heap.size) := Lib.hid (by
        rw [hz8]
        exact HTK.out.upperK HTF.out fun p h1 h2 => World.cell?_of_block (ho8 _ (by show p.block ≠ gP; omega)))
      have HRO8 : Hid (q.r.ok (y7.setCell ⟨gP, 75, none⟩ (.slice A7 bl c7)) gS) := Lib.hid (HQO4.out.r.upper HQRF.out fun p h1 h2 => World.cell?_of_block (ho8 _ (by show p.block ≠ gP; omega)))
      have HO8 : Hid (OwnB 5 (y7.setCell ⟨gP, 75, none⟩ (.slice A7 bl c7)) y6.heap.size A7 bl c7 bs) := Lib.hid (HO7.out.others fun k hk => ho8 k (by show k ≠ gP; omega))
      have hlen8 : gS < (y7.setCell ⟨gP, 75, none⟩ (.slice A7 bl c7)).heap.size := by omega
      have LB1 : Hid ((setBd A7 bl c7 bs q).h.s.length = 16) := LQ1
      have LB2 : Hid ((setBd A7 bl c7 bs q).h.d.length = 16) := LQ2
      have LB3 : Hid ((setBd A7 bl c7 bs q).f.length = 16) := LQ3
      go_wp2_with ((with_reducible refine wpList_load_pq pkt_own rfl (.tmp 7) rfl gP rfl (setBd A7 bl c7 bs q) HQ8.out LB1.out LB2.out LB3.out ?_); refine Hid.out ?_)
      refine Lib.hid ?_
      clear k75 f75 ho8 hz8 HQ8 HTB HTK HO7 HQB HR
      generalize y7.setCell ⟨gP, 75, none⟩ (.slice A7 bl c7) = y8 at *
      go_wp2_with fail
      refine (holdseg_any gS (setBd A7 bl c7 bs q) t y8 LB1.out LB2.out LB3.out HTB8.out).mono ?_
      rintro e y9 ⟨rfl, hl⟩
      have hl9 : Low y8 y9 := hl
      have hs9 := hl9.size
      have HR9 := Lib.hid (HR8.out.below hl9 HR8.out.lt)
      have HTK9 := Lib.hid (HTK8.out.low hl9)
      have HRO9 := Lib.hid (HRO8.out.below' (hl9.mono (by omega)) (show gS ≤ y9.heap.size by omega))
      have HO9 := Lib.hid (HO8.out.below hl9)
      have hL9 := hL8.trans hl9
      have LC1 : Hid ((setTc t (setKd 6 (setBd A7 bl c7 bs q))).h.s.length = 16) := LQ1
      have LC2 : Hid ((setTc t (setKd 6 (setBd A7 bl c7 bs q))).h.d.length = 16) := LQ2
      have LC3 : Hid ((setTc t (setKd 6 (setBd A7 bl c7 bs q))).f.length = 16) := LQ3
      clear hl hl9 HR8 HTB8 HTK8 HRO8 HO8 hL8
      unfold pqV
      go_wp2_with ((refine wpList_store_pq pkt_own rfl (.tmp 2) (.tmp 79) rfl w.heap.size rfl (setTc t (setKd 6 (setBd A7 bl c7 bs q))) rfl zeroQ HR9.out rfl rfl rfl LC1.out LC2.out LC3.out ?_); intro wF HG hbF hzF hoF; refine Hid.out ?_)
      refine Lib.hid ?_
      replace HG := Lib.hid HG
      have HRk : Hid (q.r.ok wF wF.heap.size) := Lib.hid (by rw [hzF]; exact HRO9.out.upper HQRF.out (fun p h1 h2 => World.cell?_of_block (hoF _ (by omega))))
      have HTk : Hid (t.ok wF wF.heap.size) := Lib.hid (by rw [hzF]; exact HTK9.out.upperK HTF.out fun p h1 h2 => World.cell?_of_block (hoF _ (by omega)))
      have HBk : Hid (Bs wF wF.heap.size A7 bl bs) := Lib.hid ((HO9.out.others fun k hk => hoF k (by omega)).bs (Nat.le_refl _))
      have HOKF : Hid (Pq.ok wF wF.heap.size (setTc t (setKd 6 (setBd A7 bl c7 bs q)))) := Lib.hid ⟨HQO4.out.h, HRk.out, HQO4.out.fl, HQO4.out.fa, by show i64ok 6; unfold i64ok; omega, HTk.out, Mg.ok.empty HQO4.out.m (congrArg Pb.m HQV.out), hbln, HBk.out⟩
      have HTW := Lib.hid (show t.v = (parseS bs).1 by rw [HTV.out])
      have HQVF := Lib.hid (show q.v = ⟨h, rtIs ps, rtR xs ps, q.f, 0, zeroSb, zeroMb, []⟩ by rw [HQF.out]; exact HQV.out)
      go_wp2_with fail
      exact ret_pq pkt_own Tryz.results4 rfl rfl HG.out LC1.out LC2.out LC3.out (GivesPk.own6 HQVF.out HTW.out HE4.out HSAY.out HOKF.out (Below.trans hL9 hbF)) rfl
    · have hne : (e4 != 0) = true := by simpa using hz4
      clear HRD HQB HQO4 HBB6
      go_wp2_with (first
        | (with_reducible refine wpList_build0 (pqC zeroQ) build0_pk rfl rfl ?_)
        | ((refine wpList_store_pq pkt_own rfl (.tmp 2) (.tmp 72) rfl w.heap.size rfl zeroQ rfl zeroQ HR.out rfl rfl rfl rfl rfl rfl ?_); intro w14 HG hb14 hz14 ho14; refine Hid.out ?_))
      refine Lib.hid ?_
      replace HG := Lib.hid HG
      go_wp2_with fail
      exact ret_pq pkt_own Tryz.results4 rfl rfl HG.out rfl rfl rfl (GivesPk.no HE4.out hz4 (Below.trans hL6 hb14)) rfl
  · by_cases h58 : lk = 58
    · subst h58
      go_wp2_with fail
      refine (blank58_any y3).mono ?_
      rintro e y4 ⟨rfl, hS4, hl⟩
      have hl4 : Low y3 y4 := hl
      replace HR := Lib.hid (HR.out.below hl4 HR.out.lt)
      replace HGH : Hid (BlkH y4 gH h) := Lib.hid (HGH.out.below hl4 HGH.out.lt)
      replace HQB := Lib.hid (HQB.out.below hl4 HQB.out.lt)
      have HQO4 := Lib.hid (HQO.out.below' hl4 (Nat.le_refl _))
      replace HUP := Lib.hid (HUP.out.below hl4 hlu)
      replace hL := hL.trans hl4
      have hs4 := hl4.size
      have hs4b := hS4.lt
      obtain ⟨gS, hgS⟩ : ∃ g, g = y3.heap.size := ⟨_, rfl⟩
      rw [← hgS] at hS4 hlu hs4b HQO4 ⊢
      have HSG := Lib.hid hS4
      clear ku hl hl4 hS4 HQO hs4 hgS
      go_wp2_with ((with_reducible refine wpList_load_pt rfl (.tmp 8) rfl gU rfl pl HUP.out ?_); refine Hid.out ?_)
      refine Lib.hid ?_
      go_wp2_with fail
      refine (bytesOf_any b o n c m (n - m) pl y4 HUA.out HUL.out (by omega) hc hc2).mono ?_
      rintro e y5 ⟨⟨A3, rfl, hA3⟩, hl⟩
      have hl5 : Low y4 y5 := hl
      replace HR := Lib.hid (HR.out.below hl5 HR.out.lt)
      replace HGH : Hid (BlkH y5 gH h) := Lib.hid (HGH.out.below hl5 HGH.out.lt)
      replace HQB := Lib.hid (HQB.out.below hl5 HQB.out.lt)
      replace HQO4 := Lib.hid (HQO4.out.below' (hl5.mono (by omega)) (Nat.le_refl _))
      replace HSG := Lib.hid (HSG.out.below hl5 hs4b)
      replace hL := hL.trans hl5
      have HBB := Lib.hid ((HB.out.cutFrom (A' := A3) hmn hA3).below' hL hL.size)
      have HA3 := Lib.hid hA3
      have hs5 : gS < y5.heap.size := HSG.out.lt
      clear hl hl5 HUP hA3
      have HSRC := Lib.hid (BlkV.atSrcK HGH.out)
      have HFNR : Hid (y5.rangeAt gP 44 (cellsB q.f)) := Lib.hid (HQB.out.fin LQ1.out LQ2.out LQ3.out)
      have HFA := Lib.hid HQO4.out.fa
      have HQF := Lib.hid (show q.f = rtFin xs ps h.d from congrArg Pb.f HQV.out)
      go_wp2_with (first
        | (with_reducible refine wpList_load_at rfl (.tmp 64) rfl gH 5 rfl h.s HS.out HSRC.out ?_)
        | (with_reducible refine wpList_load_at rfl (.tmp 66) rfl gP 44 rfl q.f LQ3.out HFNR.out ?_))
      refine (msgread_any gS h.s q.f A3 (n - m) (c - m) (xs.drop m) y5 HS.out LQ3.out HHO.out.vs HFA.out (by omega) (by omega) (by omega) HBB.out HSG.out).mono ?_
      rintro e y6 ⟨rfl, hbl6, hs6, hrd⟩
      rw [← HQF.out] at HPKE HSAY
      rw [← HPKE.out] at hrd ⊢
      obtain ⟨e4, he4⟩ : ∃ e4, e4 = pkE xs := ⟨_, rfl⟩
      rw [← he4] at hrd ⊢
      have HE4 := Lib.hid he4.symm
      have HRD := Lib.hid hrd
      replace HR := Lib.hid (HR.out.below hbl6 (by omega))
      replace HQB := Lib.hid (HQB.out.below hbl6 (by omega))
      replace HQO4 := Lib.hid (HQO4.out.below' hbl6 (Nat.le_refl _))
      have hL6 : Low w y6 := Below.trans hL (hbl6.mono (by omega))
      have HBB6 := Lib.hid ((HB.out.cutFrom (A' := A3) hmn HA3.out).below' hL6 hL6.size)
      clear he4 hrd HSRC HFNR HSG HGH HBB HA3
      by_cases hz4 : e4 = 0
      · subst hz4
        obtain ⟨t, htb, htv, htk, htf⟩ := HRD.out rfl
        have HTB := Lib.hid htb
        have HTV := Lib.hid htv
        have HTK := Lib.hid htk
        have HTF := Lib.hid htf
        clear htb htv htk htf HRD
        go_wp2_with fail
        refine (sclone_any A3 (n - m) (c - m) (xs.drop m) y6 (by omega) HBB6.out).mono ?_
        rintro e y7 ⟨A7, c7, rfl, hO7, hl⟩
        have hl7 : Low y6 y7 := hl
        replace HR := Lib.hid (HR.out.below hl7 HR.out.lt)
        replace HQB := Lib.hid (HQB.out.below hl7 HQB.out.lt)
        replace HQO4 := Lib.hid (HQO4.out.below' (hl7.mono (by omega)) (Nat.le_refl _))
        replace HTB := Lib.hid (HTB.out.below hl7 HTB.out.lt)
        replace HTK := Lib.hid (HTK.out.low hl7)
        have hL7 := hL6.trans hl7
        have HO7 := Lib.hid hO7
        have hs7 := hl7.size
        obtain ⟨bs, hbs⟩ : ∃ bs, bs = xs.drop m := ⟨_, rfl⟩
        rw [← hbs] at HO7 HTV HSAY ⊢
        obtain ⟨bl, hbl⟩ : ∃ bl, bl = bs.length := ⟨_, rfl⟩
        rw [← hbl] at HO7 ⊢
        have hbln : bl ≤ 140737488351232 := by
          rw [hbl, hbs, List.length_drop, HB.out.len]
          omega
        clear hl hl7 hO7 hbl hbs HBB6 hbl6
        have k75 := rangeAt_one (HQB.out.bd LQ1.out LQ2.out LQ3.out)
        have f75 := HQB.out.room 75
        have ho8 := setCell_others y7 ⟨gP, 75, none⟩ (.slice A7 bl c7)
        have HQ8 : Hid (BlkQ 38 (y7.setCell ⟨gP, 75, none⟩ (.slice A7 bl c7)) gP (setBd A7 bl c7 bs q)) := Lib.hid (HQB.out.setBd LQ1.out LQ2.out LQ3.out A7 bl c7 bs)
        have hz8 : (y7.setCell ⟨gP, 75, none⟩ (.slice A7 bl c7)).heap.size = y7.heap.size := by simp
        have hL8 : Low w (y7.setCell ⟨gP, 75, none⟩ (.slice A7 bl c7)) := hL7.setCell (by show w.heap.size ≤ gP; omega) _
        have HR8 : Hid (BlkQ 38 (y7.setCell ⟨gP, 75, none⟩ (.slice A7 bl c7)) w.heap.size zeroQ) := Lib.hid (HR.out.stay (ho8 _ (by show w.heap.size ≠ gP; omega)))
        have HTB8 : Hid (BlkV (y7.setCell ⟨gP, 75, none⟩ (.slice A7 bl c7)) 94 gS (msgC t)) := Lib.hid ((ho8 _ (by show gS ≠ gP; omega)).trans HTB.out)
        have HTK8 : Hid (t.ok (y7.setCell ⟨gP, 75, none⟩ (.slice A7 bl c7)) (y7.setCell ⟨gP, 75, none⟩ (.slice A7 bl c7)).heap.size) := Lib.hid (by
          rw [hz8]
          exact HTK.out.upperK HTF.out fun p h1 h2 => World.cell?_of_block (ho8 _ (by show p.block ≠ gP; omega)))
        have HRO8 : Hid (q.r.ok (y7.setCell ⟨gP, 75, none⟩ (.slice A7 bl c7)) gS) := Lib.hid (HQO4.out.r.upper HQRF.out fun p h1 h2 => World.cell?_of_block (ho8 _ (by show p.block ≠ gP; omega)))
        have HO8 : Hid (OwnB 5 (y7.setCell ⟨gP, 75, none⟩ (.slice A7 bl c7)) y6.heap.size A7 bl c7 bs) := Lib.hid (HO7.out.others fun k hk => ho8 k (by show k ≠ gP; omega))
        have hlen8 : gS < (y7.setCell ⟨gP, 75, none⟩ (.slice A7 bl c7)).heap.size := by omega
        have LB1 : Hid ((setBd A7 bl c7 bs q).h.s.length = 16) := LQ1
        have LB2 : Hid ((setBd A7 bl c7 bs q).h.d.length = 16) := LQ2
        have LB3 : Hid ((setBd A7 bl c7 bs q).f.length = 16) := LQ3
        go_wp2_with ((with_reducible refine wpList_load_pq pkt_own rfl (.tmp 7) rfl gP rfl (setBd A7 bl c7 bs q) HQ8.out LB1.out LB2.out LB3.out ?_); refine Hid.out ?_)
        refine Lib.hid ?_
        clear k75 f75 ho8 hz8 HQ8 HTB HTK HO7 HQB HR
        generalize y7.setCell ⟨gP, 75, none⟩ (.slice A7 bl c7) = y8 at *
        go_wp2_with fail
        refine (holdmsg_any gS (setBd A7 bl c7 bs q) t y8 LB1.out LB2.out LB3.out HTB8.out).mono ?_
        rintro e y9 ⟨rfl, hl⟩
        have hl9 : Low y8 y9 := hl
        have hs9 := hl9.size
        have HR9 := Lib.hid (HR8.out.below hl9 HR8.out.lt)
        have HTK9 := Lib.hid (HTK8.out.low hl9)
        have HRO9 := Lib.hid (HRO8.out.below' (hl9.mono (by omega)) (show gS ≤ y9.heap.size by omega))
        have HO9 := Lib.hid (HO8.out.below hl9)
        have hL9 := hL8.trans hl9
        have LC1 : Hid ((setMs t (setKd 58 (setBd A7 bl c7 bs q))).h.s.length = 16) := LQ1
        have LC2 : Hid ((setMs t (setKd 58 (setBd A7 bl c7 bs q))).h.d.length = 16) := LQ2
        have LC3 : Hid ((setMs t (setKd 58 (setBd A7 bl c7 bs q))).f.length = 16) := LQ3
        clear hl hl9 HR8 HTB8 HTK8 HRO8 HO8 hL8
        unfold pqV
        go_wp2_with ((refine wpList_store_pq pkt_own rfl (.tmp 2) (.tmp 79) rfl w.heap.size rfl (setMs t (setKd 58 (setBd A7 bl c7 bs q))) rfl zeroQ HR9.out rfl rfl rfl LC1.out LC2.out LC3.out ?_); intro wF HG hbF hzF hoF; refine Hid.out ?_)
        refine Lib.hid ?_
        replace HG := Lib.hid HG
        have HRk : Hid (q.r.ok wF wF.heap.size) := Lib.hid (by rw [hzF]; exact HRO9.out.upper HQRF.out (fun p h1 h2 => World.cell?_of_block (hoF _ (by omega))))
        have HTk : Hid (t.ok wF wF.heap.size) := Lib.hid (by rw [hzF]; exact HTK9.out.upperK HTF.out fun p h1 h2 => World.cell?_of_block (hoF _ (by omega)))
        have HBk : Hid (Bs wF wF.heap.size A7 bl bs) := Lib.hid ((HO9.out.others fun k hk => hoF k (by omega)).bs (Nat.le_refl _))
        have HOKF : Hid (Pq.ok wF wF.heap.size (setMs t (setKd 58 (setBd A7 bl c7 bs q)))) := Lib.hid ⟨HQO4.out.h, HRk.out, HQO4.out.fl, HQO4.out.fa, by show i64ok 58; unfold i64ok; omega, Sg.ok.empty HQO4.out.t (congrArg Pb.t HQV.out), HTk.out, hbln, HBk.out⟩
        have HTW := Lib.hid (show t.v = parseM h.s q.f bs by rw [HTV.out])
        have HQVF := Lib.hid (show q.v = ⟨h, rtIs ps, rtR xs ps, q.f, 0, zeroSb, zeroMb, []⟩ by rw [HQF.out]; exact HQV.out)
        go_wp2_with fail
        exact ret_pq pkt_own Tryz.results4 rfl rfl HG.out LC1.out LC2.out LC3.out (GivesPk.own58 HQVF.out HTW.out HE4.out HSAY.out HOKF.out (Below.trans hL9 hbF)) rfl
      · have hne : (e4 != 0) = true := by simpa using hz4
        clear HRD HQB HQO4 HBB6
        go_wp2_with (first
          | (with_reducible refine wpList_build0 (pqC zeroQ) build0_pk rfl rfl ?_)
          | ((refine wpList_store_pq pkt_own rfl (.tmp 2) (.tmp 72) rfl w.heap.size rfl zeroQ rfl zeroQ HR.out rfl rfl rfl rfl rfl rfl ?_); intro w14 HG hb14 hz14 ho14; refine Hid.out ?_))
        refine Lib.hid ?_
        replace HG := Lib.hid HG
        go_wp2_with fail
        exact ret_pq pkt_own Tryz.results4 rfl rfl HG.out rfl rfl rfl (GivesPk.no HE4.out hz4 (Below.trans hL6 hb14)) rfl
    · have HE := Lib.hid (show pkE xs = 7 by rw [HPKE.out]; unfold upE; rw [if_neg h6, if_neg h58])
      clear HUP HQB HQO HGH HSAY HPKE
      go_wp2_with fail
      refine (blank_no lk y3 h6 h58).mono ?_
      rintro e y4 ⟨rfl, hl⟩
      have hl4 : Low y3 y4 := hl
      replace HR := Lib.hid (HR.out.below hl4 HR.out.lt)
      replace hL := hL.trans hl4
      clear ku hl hl4
      go_wp2_with (first
        | (with_reducible refine wpList_build0 (pqC zeroQ) build0_pk rfl rfl ?_)
        | ((refine wpList_store_pq pkt_own rfl (.tmp 2) (.tmp 59) rfl w.heap.size rfl zeroQ rfl zeroQ HR.out rfl rfl rfl rfl rfl rfl ?_); intro w14 HG hb14 hz14 ho14; refine Hid.out ?_))
      refine Lib.hid ?_
      replace HG := Lib.hid HG
      go_wp2_with fail
      exact ret_pq pkt_own Tryz.results4 rfl rfl HG.out rfl rfl rfl (GivesPk.no HE.out (by omega) (Below.trans hL hb14)) rfl
end Go.Proofs.YtjafjapnmffohaaGreatDoor
