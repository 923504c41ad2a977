/- What the document's own Parse of packets tells. Condition: at most 2^47 bytes. -/
import Derived.Test.YtjafjapnmffohaaGreatDoorPkG
import Derived.Test.YtjafjapnmffohaaGreatDoorPkE
import Derived.Test.YtjafjapnmffohaaGreatDoorJTd
import Derived.Test.YtjafjapnmffohaaGreatDoorJIc
import Derived.Test.YtjafjapnmffohaaGreatDoorJWk
import Derived.Test.YtjafjapnmffohaaGreatDoorJSx
set_option maxRecDepth 100000
namespace Go.Proofs.YtjafjapnmffohaaGreatDoor
open Go.RowKit
set_option linter.unusedVariables false

/-- a packet that is told -/
def GivesPk (w : World) (xs : List Int) (e : Ending) (w' : World) : Prop :=
  ∃ q : Pq, e = .returned (.tuple #[pqV q, .int .i64 (pkE xs)]) ∧ q.v = pkB xs ∧ q.ok w' w'.heap.size ∧ Below w.heap.size w w'
theorem GivesPk.no {w w' : World} {xs : List Int} {k : Int} (h : pkE xs = k) (hk : k ≠ 0) (hB : Below w.heap.size w w') : GivesPk w xs (.returned (.tuple #[pqV zeroQ, .int .i64 k])) w' :=
  ⟨zeroQ, by rw [h], by unfold pkB; rw [if_neg (by rw [h]; exact hk)]; rfl, zeroQ_ok _ _, hB⟩
theorem run_build_hqK (a b c e f s0 s1 s2 s3 s4 s5 s6 s7 s8 s9 s10 s11 s12 s13 s14 s15 d0 d1 d2 d3 d4 d5 d6 d7 d8 d9 d10 d11 d12 d13 d14 d15 : Int) (w : World) :
    (Instr.build 42 #[(0, .agg (headC ⟨a, b, c, e, f, [s0, s1, s2, s3, s4, s5, s6, s7, s8, s9, s10, s11, s12, s13, s14, s15], [d0, d1, d2, d3, d4, d5, d6, d7, d8, d9, d10, d11, d12, d13, d14, d15]⟩).toArray)]).run Tryz.prog w = .ok (.agg (pqC (headQ ⟨a, b, c, e, f, [s0, s1, s2, s3, s4, s5, s6, s7, s8, s9, s10, s11, s12, s13, s14, s15], [d0, d1, d2, d3, d4, d5, d6, d7, d8, d9, d10, d11, d12, d13, d14, d15]⟩)).toArray) w := by kernel_rfl
theorem run_build_hq (h : Hd) (hs : h.s.length = 16) (hd : h.d.length = 16) (w : World) :
    (Instr.build 42 #[(0, .agg (headC h).toArray)]).run Tryz.prog w = .ok (.agg (pqC (headQ h)).toArray) w := by
  obtain ⟨a, b, c, e, f, s, d⟩ := h
  obtain ⟨s0, s1, s2, s3, s4, s5, s6, s7, s8, s9, s10, s11, s12, s13, s14, s15, rfl⟩ := list16 s hs
  obtain ⟨d0, d1, d2, d3, d4, d5, d6, d7, d8, d9, d10, d11, d12, d13, d14, d15, rfl⟩ := list16 d hd
  exact run_build_hqK _ _ _ _ _ _ _ _ _ _ _ _ _ _ _ _ _ _ _ _ _ _ _ _ _ _ _ _ _ _ _ _ _ _ _ _ _ w
theorem wpList_build_hq {ops : Array Oper} {rest : List Oper} {o : Oper} {a : Act} {w : World} {Q : Exit → Act → World → Prop} (hgd : o.guard = none) (x0 : Operand) (ho : o.op = .build 42 #[(0, x0)])
    (h : Hd) (e0 : a.eval x0 = .agg (headC h).toArray) (hs : h.s.length = 16) (hd : h.d.length = 16)
    (hk : wpList Tryz.prog ops Q rest (a.put o.dst (.agg (pqC (headQ h)).toArray)) w) : wpList Tryz.prog ops Q (o :: rest) a w :=
  wpList_plain hgd fun K hK => by
    unfold Oper.wp execOp
    simp only [ho, List.map_toArray, List.map_cons, List.map_nil, e0, Sem.run_bind, run_build_hq h hs hd, Result.andThen_ok, Sem.run_pure]
    exact hK _ _ hk

/-- how a call ends that tells no packet -/
theorem pk_none {xs : List Int} {k : Int} (h : preE xs = k) (hk : k ≠ 0) : pkE xs = k := by unfold pkE; rw [if_neg (by rw [h]; exact hk), h]

/-- an empty message lies anywhere -/
theorem Mg.ok.empty {w w' : World} {B B' : Nat} {m : Mg} (h : m.ok w B) (e : m.v = zeroMb) : m.ok w' B' :=
  ⟨h.kd, h.cd, h.wd, h.bm, h.bs.len, h.bs.all, fun hn => by
    have h1 := h.bs.len
    rw [show m.bs = [] from congrArg Mb.bs e] at h1
    exact absurd hn (by rw [← h1]; show ¬ 0 < 0; omega)⟩
/-- an empty segment lies anywhere -/
theorem Sg.ok.empty {w w' : World} {B B' : Nat} {t : Sg} (h : t.ok w B) (e : t.v = zeroSb) : t.ok w' B' := by
  have e1 : t.os.map Od.v = [] := congrArg Sb.os e
  have e2 : t.ps = [] := congrArg Sb.ps e
  have e3 : t.os = [] := List.map_eq_nil_iff.1 e1
  have n1 := h.os.len
  have n2 := h.ps.len
  rw [e3] at n1
  rw [e2] at n2
  exact ⟨h.sp, h.dp, h.sq, h.ak, h.fl, h.wi, h.su, h.ur, h.om, ⟨h.os.len, fun o ho => (by rw [e3] at ho; cases ho), fun hn => absurd hn (by rw [← n1]; show ¬ 0 < 0; omega)⟩, h.pm, ⟨h.ps.len, h.ps.all, fun hn => absurd hn (by rw [← n2]; show ¬ 0 < 0; omega)⟩⟩
/-- a packet with a segment; with a message -/
theorem GivesPk.yes6 {w w' : World} {xs bs s f : List Int} {q : Pq} {t : Sg} {A : Option Addr} {n c : Nat} {h : Hd} {i : Bool} {r : Rb} (hv : q.v = ⟨h, i, r, f, 0, zeroSb, zeroMb, []⟩) (ht : t.v = (parseS bs).1) (hE : pkE xs = 0)
    (hS : pkSays xs = ⟨h, i, r, f, 6, upT 6 bs, upM s f 6 bs, bs⟩) (hok : (setTc t (setBd A n c bs (setKd 6 q))).ok w' w'.heap.size) (hB : Below w.heap.size w w') :
    GivesPk w xs (.returned (.tuple #[pqV (setTc t (setBd A n c bs (setKd 6 q))), .int .i64 0])) w' := by
  refine ⟨_, by rw [hE], ?_, hok, hB⟩
  unfold pkB
  rw [if_pos hE, hS]
  show ({ q.v with k := 6, t := t.v, bs := bs } : Pb) = _
  rw [hv, ht]
  unfold upT upM
  rw [if_pos rfl, if_neg (by omega)]
theorem GivesPk.yes58 {w w' : World} {xs bs s f : List Int} {q : Pq} {m : Mg} {A : Option Addr} {n c : Nat} {h : Hd} {i : Bool} {r : Rb} (hv : q.v = ⟨h, i, r, f, 0, zeroSb, zeroMb, []⟩) (hm : m.v = parseM s f bs) (hE : pkE xs = 0)
    (hS : pkSays xs = ⟨h, i, r, f, 58, upT 58 bs, upM s f 58 bs, bs⟩) (hok : (setMs m (setBd A n c bs (setKd 58 q))).ok w' w'.heap.size) (hB : Below w.heap.size w w') :
    GivesPk w xs (.returned (.tuple #[pqV (setMs m (setBd A n c bs (setKd 58 q))), .int .i64 0])) w' := by
  refine ⟨_, by rw [hE], ?_, hok, hB⟩
  unfold pkB
  rw [if_pos hE, hS]
  show ({ q.v with k := 58, m := m.v, bs := bs } : Pb) = _
  rw [hv, hm]
  unfold upT upM
  rw [if_neg (by omega), if_pos rfl]

set_option maxRecDepth 100000 in
set_option maxHeartbeats 6400000 in
theorem rpkparse_any (A : Option Addr) (n c : Nat) (xs : List Int) (w : World) (hn : n ≤ 140737488351232) (hc : n ≤ c) (hc2 : c ≤ 9223372036854775807) (hb : Bs w w.heap.size A n xs) :
    Calls Tryz.prog 5 #[.slice A n c] w (GivesPk w xs) := by
  have HB := Lib.hid hb
  have HLN := Lib.hid hb.len
  clear hb
  go_enter Tryz.func5, Tryz.ntmps5
  go_wp2_with ((with_reducible refine wpList_alloc_pq pkt_ref rfl rfl ?_); intro w1 HR hL hz1; refine Hid.out ?_)
  refine Lib.hid ?_
  replace HR := Lib.hid HR
  go_wp2_with ((with_reducible refine wpList_alloc_pq pkt_ref rfl rfl ?_); intro w2 HZ hl hz2; refine Hid.out ?_)
  refine Lib.hid ?_
  rw [hz1] at HZ
  replace HR := Lib.hid (HR.out.below hl HR.out.lt)
  replace HZ := Lib.hid HZ
  replace hL := hL.trans hl
  clear hl hz1 hz2
  by_cases h1500 : 1500 < n
  · have HE := Lib.hid (pk_none (show preE xs = 4 by unfold preE; rw [if_pos (by rw [HLN.out]; exact h1500)]) (by omega))
    have d1 : decide (1500 < (n : Int)) = true := by simp; omega
    go_wp2_with (first | (with_reducible refine wpList_load_pq pkt_ref rfl (.tmp 4) rfl (w.heap.size + 1) rfl zeroQ HZ.out rfl rfl rfl ?_) | ((refine wpList_store_pq pkt_ref rfl (.tmp 2) (.tmp 13) rfl w.heap.size rfl zeroQ rfl zeroQ HR.out rfl rfl rfl rfl rfl rfl ?_); intro w4 HG hb4 hz4 ho4; refine Hid.out ?_))
    refine Lib.hid ?_
    replace HG := Lib.hid HG
    go_wp2_with fail
    exact ret_pq pkt_ref Tryz.results5 rfl rfl HG.out rfl rfl rfl (GivesPk.no HE.out (by omega) (Below.trans hL hb4)) rfl
  · have d1 : decide (1500 < (n : Int)) = false := by simp; omega
    go_wp2_with fail
    refine (rget_any A n c xs w2 (by omega) (HB.out.below' hL hL.size)).mono ?_
    rintro e w3 ⟨rfl, hl⟩
    obtain ⟨h, hh⟩ : ∃ h, h = getH xs := ⟨_, rfl⟩
    obtain ⟨er, her⟩ : ∃ er, er = getE xs := ⟨_, rfl⟩
    rw [← hh, ← her]
    have HHO := Lib.hid (show h.ok by rw [hh]; exact getH_ok HB.out.all)
    have HS := Lib.hid HHO.out.s
    have HD := Lib.hid HHO.out.d
    have HER := Lib.hid her
    have HH := Lib.hid hh
    have hl3 : Low w2 w3 := hl
    replace HR := Lib.hid (HR.out.below hl3 HR.out.lt)
    replace HZ := Lib.hid (HZ.out.below hl3 HZ.out.lt)
    replace hL := hL.trans hl3
    clear hl hl3 hh her
    unfold headV
    go_wp2_with ((with_reducible refine wpList_alloc_v rfl 26 rfl (headC zeroH) (by kernel_rfl) ?_); intro w4 HY hl4 hz4; refine Hid.out ?_)
    refine Lib.hid ?_
    have HY4 : Hid (BlkH w4 w3.heap.size zeroH) := Lib.hid HY
    have hlr := HR.out.lt
    have hlz := HZ.out.lt
    go_wp2_with ((refine wpList_store_headB rfl (.tmp 5) (.tmp 17) rfl w3.heap.size rfl h rfl zeroH HY4.out rfl rfl HS.out HD.out ?_); intro w5 HG5 hb5 hz5 ho5; refine Hid.out ?_)
    refine Lib.hid ?_
    have hl5 : Low w3 w5 := Below.trans hl4 hb5
    replace HR := Lib.hid (HR.out.below hl5 HR.out.lt)
    replace HZ := Lib.hid (HZ.out.below hl5 HZ.out.lt)
    replace hL := hL.trans hl5
    obtain ⟨gH, hgH⟩ : ∃ g, g = w3.heap.size := ⟨_, rfl⟩
    rw [← hgH] at HG5 hlr hlz ⊢
    replace HG5 := Lib.hid HG5
    clear HY HY4 hl4 hz4 hb5 hz5 ho5 hl5 hgH
    have hpE : ¬ 1500 < xs.length := by rw [HLN.out]; exact h1500
    by_cases he : er = 0
    · subst he
      have hE0 : getE xs = 0 := HER.out.symm
      obtain ⟨h40, h6⟩ : 40 ≤ n ∧ h = getL xs := by
        rcases getE_cases xs with ⟨g1, e1, e2⟩ | ⟨g1, g2, e1, e2⟩ | ⟨g1, g2, e1, e2⟩
        · omega
        · exact ⟨by rw [← HLN.out]; exact g1, HH.out.trans e2⟩
        · omega
      have HGL := Lib.hid h6
      clear h6
      have c2 : w5.cell? ⟨gH, 2, none⟩ = some (.int .i64 h.ln) := HG5.out.cell 2
      have c3 : w5.cell? ⟨gH, 3, none⟩ = some (.int .i64 h.nx) := HG5.out.cell 3
      have q40 : IntKind.i64.wrap ((n : Int) - 40) = (n : Int) - 40 := by rw [IntKind.wrap_i64]; omega
      by_cases hln : h.ln = (n : Int) - 40
      · have b2 : (h.ln != (n : Int) - 40) = false := by simpa using hln
        have HLNE := Lib.hid hln
        clear hln
        go_wp2_with fail
        refine (rwalk_any A n c xs h.nx 40 w5 (by omega) (HB.out.below' hL hL.size) HHO.out.nx (by unfold i64ok; omega)).mono ?_
        rintro e w6 ⟨pA, pc, rfl, hps, hl⟩
        have hW : pkW xs = walkL xs h.nx 40 := by unfold pkW; rw [← HGL.out]
        obtain ⟨r, hr⟩ : ∃ r, r = walkL xs h.nx 40 := ⟨_, rfl⟩
        rw [← hr] at hW hps ⊢
        obtain ⟨ps, e2⟩ := r
        dsimp only at hps ⊢
        have HW := Lib.hid hW
        have HPS := Lib.hid hps
        obtain ⟨pn, hpn⟩ : ∃ pn, pn = ps.length := ⟨_, rfl⟩
        rw [← hpn] at HPS ⊢
        have hl6 : Low w5 w6 := hl
        replace HR := Lib.hid (HR.out.below hl6 HR.out.lt)
        replace HZ := Lib.hid (HZ.out.below hl6 HZ.out.lt)
        replace HG5 := Lib.hid (HG5.out.below hl6 HG5.out.lt)
        replace hL := hL.trans hl6
        have hpre1 : preE xs = if e2 = 0 then rtErr xs ps h.d else e2 := by
          unfold preE
          rw [if_neg hpE, if_pos hE0, ← HGL.out, HLN.out, if_pos HLNE.out, HW.out]
        have HPRE := Lib.hid hpre1
        clear hr hW hps hl hl6 c2 c3 b2 q40 hpre1
        by_cases he2 : e2 = 0
        · subst he2
          have HP0 := Lib.hid (show preE xs = rtErr xs ps h.d by rw [HPRE.out, if_pos rfl])
          clear HPRE
          obtain ⟨hz1, hz2, m, hz3, hz4, hz5⟩ := pkW_zero (xs := xs) (by rw [HLN.out]; exact h40) (by rw [HW.out])
          rw [HW.out] at hz2
          have hp0 : 0 < pn := by rw [hpn]; exact List.length_pos_iff.2 hz2
          have hp9 : pn ≤ 9 := by
            rw [hpn]
            have := walkL_len xs h.nx 40
            have e := congrArg (fun r : List Pt × Int => r.1.length) HW.out
            unfold pkW at e
            rw [← HGL.out] at e
            dsimp only at e
            omega
          have HUA := Lib.hid hz3
          have HPNL := Lib.hid hpn
          clear hz1 hz2 hz3 hpn
          go_wp2_with (first | (with_reducible refine wpList_load_head rfl (.tmp 5) rfl gH rfl h HG5.out HS.out HD.out ?_) | (refine wpList_build_hq rfl (.tmp 42) rfl h rfl HS.out HD.out ?_))
          have hw6 : w.heap.size + 1 < w6.heap.size := HZ.out.lt
          refine (rroute_any h A n c xs pA pn pc ps w6 HHO.out hn h40 hc hc2 (HB.out.below' hL hL.size) hp0 (by omega) HPS.out).mono ?_
          rintro e w7 ⟨q, rfl, ⟨l1, l2, l3⟩, hB7, hq⟩
          have hl7 : Low w6 w7 := hB7
          replace HR := Lib.hid (HR.out.below hl7 HR.out.lt)
          replace HZ := Lib.hid (HZ.out.below hl7 HZ.out.lt)
          replace HG5 := Lib.hid (HG5.out.below hl7 HG5.out.lt)
          replace HPS := Lib.hid (HPS.out.below' hl7 hl7.size)
          replace hL := hL.trans hl7
          obtain ⟨e3, he3⟩ : ∃ e3, e3 = rtErr xs ps h.d := ⟨_, rfl⟩
          rw [← he3] at hq ⊢
          have HE3 := Lib.hid he3
          have HQ := Lib.hid hq
          have L1 := Lib.hid l1
          have L2 := Lib.hid l2
          have L3 := Lib.hid l3
          clear hB7 hl7 he3 hq l1 l2 l3
          unfold pqV
          go_wp2_with ((with_reducible refine wpList_alloc_pq pkt_ref rfl rfl ?_); intro w8 HY hl8 hz8; refine Hid.out ?_)
          refine Lib.hid ?_
          have HY8 := Lib.hid HY
          have hlr := HR.out.lt
          have hlz := HZ.out.lt
          have hlh := HG5.out.lt
          go_wp2_with ((refine wpList_store_pq pkt_ref rfl (.tmp 8) (.tmp 47) rfl w7.heap.size rfl q rfl zeroQ HY8.out rfl rfl rfl L1.out L2.out L3.out ?_); intro w9 HQ9 hb9 hz9 ho9; refine Hid.out ?_)
          refine Lib.hid ?_
          have hl9 : Low w7 w9 := Below.trans hl8 hb9
          replace HR := Lib.hid (HR.out.below hl9 HR.out.lt)
          replace HZ := Lib.hid (HZ.out.below hl9 HZ.out.lt)
          replace HG5 := Lib.hid (HG5.out.below hl9 HG5.out.lt)
          replace HPS := Lib.hid (HPS.out.below' hl9 (Nat.le_refl _))
          have HQK : Hid (e3 = 0 → q.v = ⟨h, rtIs ps, rtR xs ps, rtFin xs ps h.d, 0, zeroSb, zeroMb, []⟩ ∧ q.ok w9 w7.heap.size ∧ q.r.from_ w6.heap.size) := Lib.hid fun e => ⟨(HQ.out e).1, (HQ.out e).2.1.below' hl9 (Nat.le_refl _), (HQ.out e).2.2⟩
          replace hL := hL.trans hl9
          have hszQ : w7.heap.size < w9.heap.size := HQ9.lt
          obtain ⟨gQ, hgQ⟩ : ∃ g, g = w7.heap.size := ⟨_, rfl⟩
          rw [← hgQ] at HQ9 HQK hlr hlz hlh hszQ HPS ⊢
          replace HQ9 := Lib.hid HQ9
          clear HY HY8 HQ hl8 hz8 hb9 hz9 ho9 hl9 hgQ
          by_cases he3 : e3 = 0
          · subst he3
            obtain ⟨hqv, hqk, hqf⟩ := HQK.out rfl
            have HPR0 := Lib.hid (show preE xs = 0 by rw [HP0.out, ← HE3.out])
            obtain ⟨pm, rfl⟩ : ∃ pm, pn = pm + 1 := ⟨pn - 1, by omega⟩
            obtain ⟨b, o, rfl, hbl, hcell⟩ := HPS.out.mem hp0
            obtain ⟨p0, hp0e⟩ : ∃ p0, p0 = ps.getD pm zeroP := ⟨_, rfl⟩
            obtain ⟨cA, cB, cC⟩ := hcell pm (by omega)
            rw [← hp0e] at cA cB cC
            have hup : pkUp xs = p0 := by
              unfold pkUp lastP
              rw [HW.out]
              dsimp only
              rw [← HPNL.out, Nat.add_sub_cancel, hp0e]
            have hpa : p0.a = m := by rw [← hup]; exact HUA.out
            rw [hpa] at cB
            have HU := Lib.hid hup
            have HPA := Lib.hid hpa
            have hpki := HPS.out.all.getD pm
            obtain ⟨lk, hlk⟩ : ∃ lk, lk = p0.k := ⟨_, rfl⟩
            obtain ⟨ll, hll⟩ : ∃ ll, ll = p0.l := ⟨_, rfl⟩
            rw [← hlk] at cA
            rw [← hll] at cC
            have HLK := Lib.hid hlk
            have HLKO := Lib.hid (show i64ok lk by rw [hlk, hp0e]; exact hpki.1)
            clear hcell hp0e hup hpa hlk hll hpki hp0
            have hpm9 : (pm : Int) < 9 := by omega
            go_wp2_with fail
            obtain ⟨gP, hgP⟩ : ∃ g, g = w9.heap.size := ⟨_, rfl⟩
            have hla : Low w9 (w9.alloc (.cells #[.int .i64 lk, .int .i64 (m : Int), .int .i64 ll] 73)) := Low.alloc w9 _
            have HPT : Hid (BlkV (w9.alloc (.cells #[.int .i64 lk, .int .i64 (m : Int), .int .i64 ll] 73)) 73 gP [.int .i64 lk, .int .i64 (m : Int), .int .i64 ll]) := Lib.hid (by rw [hgP]; exact BlkV.new w9 _ _)
            rw [← hgP]
            have hQP : gQ < gP := by rw [hgP]; exact HQ9.out.lt
            replace HR := Lib.hid (HR.out.below hla HR.out.lt)
            replace HZ := Lib.hid (HZ.out.below hla HZ.out.lt)
            replace HG5 := Lib.hid (HG5.out.below hla HG5.out.lt)
            replace HQ9 := Lib.hid (HQ9.out.below hla HQ9.out.lt)
            have HQV := Lib.hid hqv
            have HQO := Lib.hid (hqk.below' (hla.mono (Nat.le_of_lt hszQ)) (Nat.le_refl _))
            replace hL := hL.trans hla
            have hsz2 : gP < (w9.alloc (.cells #[.int .i64 lk, .int .i64 (m : Int), .int .i64 ll] 73)).heap.size := HPT.out.lt
            obtain ⟨ab, ao, rfl, hab, -⟩ := HB.out.mem (by omega)
            have hm1 : m ≤ n := by rw [← HLN.out]; exact hz5
            obtain ⟨A2, hs2, hA2⟩ := slc_from ab ao n c m (m : Int) hc rfl hm1
            have HB2 := Lib.hid (HB.out.cutFrom hm1 hA2)
            have HS2 := Lib.hid hs2
            have HQRF := Lib.hid hqf
            clear hqf
            clear hla hqv hqk hs2 hA2 hgP cA cB cC hbl HQK HPS hab
            generalize w9.alloc (.cells #[.int .i64 lk, .int .i64 (m : Int), .int .i64 ll] 73) = w10 at *
            obtain ⟨i0, hi, hz0, hz1, hz2⟩ := info_parts info5
            refine wp_region_planS (fun y => y.cell? ⟨gP, 0, none⟩ = some (.int .i64 lk) ∧ y.cell? ⟨gP, 1, none⟩ = some (.int .i64 (m : Int)))
              (.rd 0 (.rd 1 (.rd 3 (.rd 4 (.rd 5 (.rd 6 (.rd 8 (.act 2 (.act 7 (.act 9 (.rd 10 (.act 11 (.done)))))))))))))
              (by kernel_rfl) (by kernel_rfl) (fun _ _ d _ _ h => by cases d <;> exact h) (by kernel_rfl) ⟨HPT.out.cell 0, HPT.out.cell 1⟩ ?_
            have hDR : Low w10 w10.drew := Below.drew (Below.refl _ _)
            replace HR := Lib.hid (HR.out.below hDR HR.out.lt)
            replace HZ := Lib.hid (HZ.out.below hDR HZ.out.lt)
            replace HG5 := Lib.hid (HG5.out.below hDR HG5.out.lt)
            replace HQ9 := Lib.hid (HQ9.out.below hDR HQ9.out.lt)
            replace HPT := Lib.hid (HPT.out.below hDR HPT.out.lt)
            replace HQO := Lib.hid (HQO.out.below' (hDR.mono (by omega)) (Nat.le_refl _))
            replace hL := hL.trans hDR
            replace hsz2 : gP < w10.drew.heap.size := hsz2
            clear hDR
            generalize w10.drew = u at *
            iterate 7 (refine walkS_read (v := _) rfl (by rfl) (by rintro y ⟨e0, e1⟩; first | exact slc_exec (HS2.out y) | (go_simp; try rfl)) ?_; simp only [Act.put, List.setIfInBounds_toArray, List.set_cons_zero, List.set_cons_succ])
            refine walkS_act rfl (by rfl) (fun K hK => ?_)
            go_simp
            obtain ⟨gE, hgE⟩ : ∃ g, g = u.heap.size := ⟨_, rfl⟩
            have hOwn : OwnB 5 (u.alloc (.cells #[] 5)) u.heap.size (some ⟨gE, 0, none⟩) 0 0 [] := by rw [hgE]; exact OwnB.fresh u 5 (Nat.le_refl _)
            rw [← hgE]
            clear hgE
            have hLU : Low u (u.alloc (.cells #[] 5)) := Low.alloc _ _
            refine hK _ _ ⟨(BlkV.below HPT.out hLU HPT.out.lt).cell 0, (BlkV.below HPT.out hLU HPT.out.lt).cell 1⟩ ?_
            clear hK K
            generalize u.alloc (.cells #[] 5) = y1 at *
            refine walkS_act rfl (by rfl) (fun K hK => ?_)
            have hsrc := (HB2.out.below' (Low.trans hL hLU) (Low.trans hL hLU).size)
            refine wp_append_bs (.tmp 61) (.tmp 65) _ rfl u.heap.size 5 i0 Tryz.underlying22 hi hz0 hz1 hz2 _ 0 0 [] rfl hOwn A2 (n - m) (c - m) _ _ rfl hsrc (by omega) hLU.size ?_
            intro A3 c3 y2 hO3 hg3 hx3
            have hL3 : Low u y2 := hLU.grown hg3 hLU.size (fun k hk => (hOwn.lt k hk).1)
            refine hK _ _ ⟨(BlkV.below HPT.out hL3 HPT.out.lt).cell 0, (BlkV.below HPT.out hL3 HPT.out.lt).cell 1⟩ ?_
            clear hK K hsrc hg3 hx3 hOwn hLU HB2 HS2
            simp only [Act.put, List.setIfInBounds_toArray, List.set_cons_zero, List.set_cons_succ, Nat.zero_add, List.nil_append] at hO3 ⊢
            have hsU : gQ < u.heap.size := by omega
            replace HR := Lib.hid (HR.out.below hL3 HR.out.lt)
            replace HZ := Lib.hid (HZ.out.below hL3 HZ.out.lt)
            replace HG5 := Lib.hid (HG5.out.below hL3 HG5.out.lt)
            replace HQ9 := Lib.hid (HQ9.out.below hL3 HQ9.out.lt)
            replace HPT := Lib.hid (HPT.out.below hL3 HPT.out.lt)
            replace HQO := Lib.hid (HQO.out.below' (hL3.mono (Nat.le_of_lt hsU)) (Nat.le_refl _))
            replace hL := hL.trans hL3
            have hus := hL3.size
            clear hL3
            have c60 := rangeAt_one (HQ9.out.kd L1.out L2.out L3.out)
            have f60 := HQ9.out.room 60
            refine walkS_act rfl (by rfl) (fun K hK => ?_)
            go_simp
            have ho3 := setCell_others y2 ⟨gQ, 60, none⟩ (.int .i64 lk)
            have HQA : Hid (BlkQ 42 (y2.setCell ⟨gQ, 60, none⟩ (.int .i64 lk)) gQ (setKd lk q)) := Lib.hid (HQ9.out.setKd L1.out L2.out L3.out lk)
            have hbQ3 : Below gQ y2 (y2.setCell ⟨gQ, 60, none⟩ (.int .i64 lk)) := Below.setCell (p := ⟨gQ, 60, none⟩) (Below.refl gQ y2) (Nat.le_refl gQ) _
            have hs3 : (y2.setCell ⟨gQ, 60, none⟩ (.int .i64 lk)).heap.size = y2.heap.size := by simp
            refine hK _ _ ⟨cell_stay (HPT.out.cell 0) (ho3 gP (by dsimp only; omega)), cell_stay (HPT.out.cell 1) (ho3 gP (by dsimp only; omega))⟩ ?_
            clear hK K c60 f60
            generalize y2.setCell ⟨gQ, 60, none⟩ (.int .i64 lk) = y3 at *
            refine walkS_read (v := _) rfl (by rfl) (by rintro y ⟨e0, e1⟩; go_simp; try rfl) ?_
            simp only [Act.put, List.setIfInBounds_toArray, List.set_cons_zero, List.set_cons_succ]
            have c75 := rangeAt_one (HQA.out.bd L1.out L2.out L3.out)
            have f75 := HQA.out.room 75
            refine walkS_act rfl (by rfl) (fun K hK => ?_)
            go_simp
            have ho4 := setCell_others y3 ⟨gQ, 75, none⟩ (.slice A3 (n - m) c3)
            have HQB : Hid (BlkQ 42 (y3.setCell ⟨gQ, 75, none⟩ (.slice A3 (n - m) c3)) gQ (setBd A3 (n - m) c3 (xs.drop m) (setKd lk q))) := Lib.hid (HQA.out.setBd L1.out L2.out L3.out A3 (n - m) c3 (xs.drop m))
            have hbQ4 : Below gQ y2 (y3.setCell ⟨gQ, 75, none⟩ (.slice A3 (n - m) c3)) := Below.setCell (p := ⟨gQ, 75, none⟩) hbQ3 (Nat.le_refl gQ) _
            have hs4 : (y3.setCell ⟨gQ, 75, none⟩ (.slice A3 (n - m) c3)).heap.size = y2.heap.size := by simp [hs3]
            have hox : ∀ k : Nat, k ≠ gQ → (y3.setCell ⟨gQ, 75, none⟩ (.slice A3 (n - m) c3)).heap[k]? = y2.heap[k]? := fun k hk => (ho4 k hk).trans (ho3 k hk)
            refine hK _ _ ⟨cell_stay (HPT.out.cell 0) (hox gP (by omega)), cell_stay (HPT.out.cell 1) (hox gP (by omega))⟩ ?_
            clear hK K c75 f75 HQA hbQ3 hs3 ho3 ho4
            generalize y3.setCell ⟨gQ, 75, none⟩ (.slice A3 (n - m) c3) = y4 at *
            unfold walkS
            have hlrQ : w.heap.size < gQ := hlr
            have hlzQ : w.heap.size + 1 < gQ := hlz
            have hlhQ : gH < gQ := hlh
            replace HR := Lib.hid (HR.out.below hbQ4 hlrQ)
            replace HZ := Lib.hid (HZ.out.below hbQ4 hlzQ)
            replace HG5 : Hid (BlkH y4 gH h) := Lib.hid (HG5.out.below hbQ4 hlhQ)
            replace HQO := Lib.hid (HQO.out.below' hbQ4 (Nat.le_refl _))
            have HOB : Hid (OwnB 5 y4 u.heap.size A3 (n - m) c3 (xs.drop m)) := Lib.hid (hO3.others fun k hk => hox k (by omega))
            replace hL : Low w y4 := Below.trans hL (hbQ4.mono (by omega))
            have hszU : u.heap.size ≤ y4.heap.size := by omega
            have HBODY := Lib.hid (show pkBody xs = xs.drop m by unfold pkBody; rw [HU.out, HPA.out, Int.toNat_natCast])
            have HFIN := Lib.hid (show pkFin xs = rtFin xs ps h.d by unfold pkFin; rw [HW.out, HGL.out])
            have HPKE := Lib.hid (show pkE xs = upE h.s (rtFin xs ps h.d) lk (xs.drop m) by unfold pkE; rw [if_pos HPR0.out, HFIN.out, HBODY.out, HU.out, ← HLK.out, HGL.out])
            have HSAY := Lib.hid (show pkSays xs = ⟨h, rtIs ps, rtR xs ps, rtFin xs ps h.d, lk, upT lk (xs.drop m), upM h.s (rtFin xs ps h.d) lk (xs.drop m), xs.drop m⟩ by unfold pkSays; rw [HFIN.out, HBODY.out, HU.out, ← HLK.out, HW.out, HGL.out])
            have HQF := Lib.hid (show q.f = rtFin xs ps h.d from congrArg Pb.f HQV.out)
            have HQH := Lib.hid (show q.h = h from congrArg Pb.h HQV.out)
            clear HPT hus hs4 hox hbQ4 HQ9 hO3
            have k60 : y4.cell? ⟨gQ, 60, none⟩ = some (.int .i64 lk) := rangeAt_one (HQB.out.kd L1.out L2.out L3.out)
            have k75 : y4.cell? ⟨gQ, 75, none⟩ = some (.slice A3 (n - m) c3) := rangeAt_one (HQB.out.bd L1.out L2.out L3.out)
            have hcap := HOB.out.cap
            simp only [maxLen] at hcap
            have hcp1 : n - m ≤ c3 := hcap.1
            have hcp2 : c3 ≤ 9223372036854775807 := by omega
            have hrQ : w.heap.size < gQ := hlr
            have hzQ : w.heap.size + 1 < gQ := hlz
            have hhQ : gH < gQ := hlh
            have LF := Lib.hid L3.out
            have FA := Lib.hid HQO.out.fa
            clear hcap
            by_cases h6 : lk = 6
            · subst h6
              go_wp2_with fail
              refine (trcparse_anyF A3 (n - m) c3 (xs.drop m) y4 (by omega) hcp1 hcp2 (HOB.out.bs (Nat.le_refl _))).mono ?_
              rintro e y5 ⟨t, rfl, htv, htk, hB5, htf⟩
              have hl5 : Low y4 y5 := hB5
              have HQ5 := Lib.hid (HQB.out.below hl5 HQB.out.lt)
              replace HR := Lib.hid (HR.out.below hl5 HR.out.lt)
              replace HZ := Lib.hid (HZ.out.below hl5 HZ.out.lt)
              replace HG5 : Hid (BlkH _ gH h) := Lib.hid (HG5.out.below hl5 HG5.out.lt)
              replace HQO := Lib.hid (HQO.out.below' (hl5.mono (by omega)) (Nat.le_refl _))
              replace HOB := Lib.hid (HOB.out.below hl5)
              replace hL := hL.trans hl5
              have hy4 : y4.heap.size ≤ y5.heap.size := hl5.size
              have HTV := Lib.hid htv
              have HTF := Lib.hid htf
              obtain ⟨e4, he4⟩ : ∃ e4, e4 = (parseS (xs.drop m)).2 := ⟨_, rfl⟩
              rw [← he4]
              have HE4 := Lib.hid he4
              have HTK := Lib.hid htk
              clear htv htf htk he4 hB5 hl5 HQB k60 k75
              unfold segV
              go_wp2_with ((refine wpList_store_tc rfl (.tmp 79) (.tmp 77) rfl gQ rfl t rfl (setBd A3 (n - m) c3 (xs.drop m) (setKd 6 q)) HQ5.out L1.out L2.out L3.out ?_); intro y6 HQ6 hb6 hz6 ho6; refine Hid.out ?_)
              refine Lib.hid ?_
              replace HR := Lib.hid (HR.out.stay (ho6 _ (by omega)))
              replace HZ := Lib.hid (HZ.out.stay (ho6 _ (by omega)))
              replace HG5 : Hid (BlkH _ gH h) := Lib.hid ((ho6 _ (by omega)).trans HG5.out)
              replace HQO := Lib.hid (HQO.out.below' hb6 (Nat.le_refl _))
              replace HOB := Lib.hid (HOB.out.others fun k hk => ho6 k (by omega))
              replace hL : Low w y6 := Below.trans hL (hb6.mono (by omega))
              replace HTK : Hid (t.ok y6 y6.heap.size) := Lib.hid (by
                rw [hz6]
                exact HTK.out.upperK HTF.out fun p h1 h2 => World.cell?_of_block (ho6 _ (by omega)))
              have HQZ := Lib.hid HQ6
              clear HQ5 HQ6 hb6 ho6
              have LQ1 : Hid ((setTc t (setBd A3 (n - m) c3 (xs.drop m) (setKd 6 q))).h.s.length = 16) := L1
              have LQ2 : Hid ((setTc t (setBd A3 (n - m) c3 (xs.drop m) (setKd 6 q))).h.d.length = 16) := L2
              have LQ3 : Hid ((setTc t (setBd A3 (n - m) c3 (xs.drop m) (setKd 6 q))).f.length = 16) := L3
              have k60 : y6.cell? ⟨gQ, 60, none⟩ = some (.int .i64 6) := rangeAt_one (HQZ.out.kd LQ1.out LQ2.out LQ3.out)
              have k75 : y6.cell? ⟨gQ, 75, none⟩ = some (.slice A3 (n - m) c3) := rangeAt_one (HQZ.out.bd LQ1.out LQ2.out LQ3.out)
              have HSRC := Lib.hid (BlkV.atSrcK HG5.out)
              have HFNR : Hid (y6.rangeAt gQ 44 (cellsB q.f)) := Lib.hid (HQZ.out.fin LQ1.out LQ2.out LQ3.out)
              by_cases he4 : e4 = 0
              · subst he4
                go_wp2_with (first | (with_reducible refine wpList_load_at_g rfl (.tmp 83) rfl gH 5 rfl h.s HS.out HSRC.out ?_) | (with_reducible refine wpList_load_at_g rfl (.tmp 85) rfl gQ 44 rfl q.f LF.out HFNR.out ?_))
                refine (rfine_any h.s q.f 6 A3 (n - m) c3 (xs.drop m) y6 HS.out LF.out HHO.out.vs FA.out (by unfold i64ok; omega) (by omega) (HOB.out.bs (Nat.le_refl _))).mono ?_
                rintro e y7 ⟨rfl, hB7⟩
                have hl7 : Low y6 y7 := hB7
                have hs7 := hl7.size
                replace HQZ := Lib.hid (HQZ.out.below hl7 HQZ.out.lt)
                replace HTK := Lib.hid (HTK.out.low hl7)
                replace HR := Lib.hid (HR.out.below hl7 HR.out.lt)
                replace HZ := Lib.hid (HZ.out.below hl7 HZ.out.lt)
                replace HG5 : Hid (BlkH _ gH h) := Lib.hid (HG5.out.below hl7 HG5.out.lt)
                replace HQO := Lib.hid (HQO.out.below' (hl7.mono (by omega)) (Nat.le_refl _))
                replace HOB := Lib.hid (HOB.out.below hl7)
                replace hL := hL.trans hl7
                obtain ⟨fb, hfb⟩ : ∃ fb, fb = fineB h.s q.f 6 (xs.drop m) := ⟨_, rfl⟩
                rw [← hfb]
                rw [HQF.out] at hfb
                have HFB := Lib.hid hfb
                clear hB7 hl7 hfb HSRC HFNR k60 k75
                cases fb
                · have HE := Lib.hid (show pkE xs = 6 by rw [HPKE.out]; unfold upE; rw [if_pos rfl, ← HE4.out, if_pos rfl, ← HFB.out]; rfl)
                  go_wp2_with (first | (with_reducible refine wpList_load_pq pkt_ref rfl (.tmp 4) rfl (w.heap.size + 1) rfl zeroQ HZ.out rfl rfl rfl ?_) | ((refine wpList_store_pq pkt_ref rfl (.tmp 2) (.tmp 107) rfl w.heap.size rfl zeroQ rfl zeroQ HR.out rfl rfl rfl rfl rfl rfl ?_); intro w14 HG hb14 hz14 ho14; refine Hid.out ?_))
                  refine Lib.hid ?_
                  replace HG := Lib.hid HG
                  go_wp2_with fail
                  exact ret_pq pkt_ref Tryz.results5 rfl rfl HG.out rfl rfl rfl (GivesPk.no HE.out (by omega) (Below.trans hL hb14)) rfl
                · have HE := Lib.hid (show pkE xs = 0 by rw [HPKE.out]; unfold upE; rw [if_pos rfl, ← HE4.out, if_pos rfl, ← HFB.out]; rfl)
                  clear HFB HE4 HPKE
                  go_wp2_with ((with_reducible refine wpList_load_pq pkt_ref rfl (.tmp 8) rfl gQ rfl (setTc t (setBd A3 (n - m) c3 (xs.drop m) (setKd 6 q))) HQZ.out LQ1.out LQ2.out LQ3.out ?_); refine Hid.out ?_)
                  refine Lib.hid ?_
                  go_wp2_with ((refine wpList_store_pq pkt_ref rfl (.tmp 2) (.tmp 109) rfl w.heap.size rfl (setTc t (setBd A3 (n - m) c3 (xs.drop m) (setKd 6 q))) rfl zeroQ HR.out rfl rfl rfl LQ1.out LQ2.out LQ3.out ?_); intro wF HG hbF hzF hoF; refine Hid.out ?_)
                  refine Lib.hid ?_
                  replace HG := Lib.hid HG
                  have HRk : Hid (q.r.ok wF wF.heap.size) := Lib.hid (by rw [hzF]; exact (HQO.out.r.upper HQRF.out (fun p h1 h2 => World.cell?_of_block (hoF _ (by omega)))).more (by omega))
                  have HTk : Hid (t.ok wF wF.heap.size) := Lib.hid (by rw [hzF]; exact HTK.out.upperK HTF.out fun p h1 h2 => World.cell?_of_block (hoF _ (by omega)))
                  have HMk : Hid (q.m.ok wF wF.heap.size) := Lib.hid (Mg.ok.empty HQO.out.m (congrArg Pb.m HQV.out))
                  have HBk : Hid (Bs wF wF.heap.size A3 (n - m) (xs.drop m)) := Lib.hid ((HOB.out.others fun k hk => hoF k (by omega)).bs (Nat.le_refl _))
                  have HOKF : Hid (Pq.ok wF wF.heap.size (setTc t (setBd A3 (n - m) c3 (xs.drop m) (setKd 6 q)))) := Lib.hid ⟨HQO.out.h, HRk.out, HQO.out.fl, HQO.out.fa, HLKO.out, HTk.out, HMk.out, by show n - m ≤ _; omega, HBk.out⟩
                  go_wp2_with fail
                  exact ret_pq pkt_ref Tryz.results5 rfl rfl HG.out LQ1.out LQ2.out LQ3.out (GivesPk.yes6 HQV.out HTV.out HE.out HSAY.out HOKF.out (Below.trans hL hbF)) rfl
              · have hne : (e4 == 0) = false := by simpa using he4
                have HE4N := Lib.hid he4
                have HE := Lib.hid (show pkE xs = e4 by rw [HPKE.out]; unfold upE; rw [if_pos rfl, ← HE4.out, if_neg he4])
                clear he4
                clear HSRC HFNR k60 k75 HTK HQZ HOB HQO HG5 LQ1 LQ2 LQ3
                go_wp2_with ((with_reducible refine wpList_load_pq pkt_ref rfl (.tmp 4) rfl (w.heap.size + 1) rfl zeroQ HZ.out rfl rfl rfl ?_); refine Hid.out ?_)
                refine Lib.hid ?_
                go_wp2_with ((refine wpList_store_pq pkt_ref rfl (.tmp 2) (.tmp 107) rfl w.heap.size rfl zeroQ rfl zeroQ HR.out rfl rfl rfl rfl rfl rfl ?_); intro w14 HG hb14 hz14 ho14; refine Hid.out ?_)
                refine Lib.hid ?_
                replace HG := Lib.hid HG
                go_wp2_with fail
                exact ret_pq pkt_ref Tryz.results5 rfl rfl HG.out rfl rfl rfl (GivesPk.no HE.out HE4N.out (Below.trans hL hb14)) rfl
            · by_cases h58 : lk = 58
              · subst h58
                have HSRC := Lib.hid (BlkV.atSrcK HG5.out)
                have HFNR : Hid (y4.rangeAt gQ 44 (cellsB q.f)) := Lib.hid (HQB.out.fin L1.out L2.out L3.out)
                go_wp2_with (first | (with_reducible refine wpList_load_at rfl (.tmp 95) rfl gH 5 rfl h.s HS.out HSRC.out ?_) | (with_reducible refine wpList_load_at rfl (.tmp 97) rfl gQ 44 rfl q.f LF.out HFNR.out ?_))
                refine (ricparse_any h.s q.f A3 (n - m) c3 (xs.drop m) y4 HS.out LF.out HHO.out.vs FA.out (by omega) hcp1 (HOB.out.bs (Nat.le_refl _))).mono ?_
                rintro e y5 ⟨t, rfl, htv, htk, hB5, htf⟩
                have hl5 : Low y4 y5 := hB5
                have HQ5 := Lib.hid (HQB.out.below hl5 HQB.out.lt)
                replace HR := Lib.hid (HR.out.below hl5 HR.out.lt)
                replace HZ := Lib.hid (HZ.out.below hl5 HZ.out.lt)
                replace HQO := Lib.hid (HQO.out.below' (hl5.mono (by omega)) (Nat.le_refl _))
                replace HOB := Lib.hid (HOB.out.below hl5)
                replace hL := hL.trans hl5
                have hy4 : y4.heap.size ≤ y5.heap.size := hl5.size
                have HTV := Lib.hid htv
                have HTF := Lib.hid htf
                obtain ⟨e4, he4⟩ : ∃ e4, e4 = parseE h.s q.f (xs.drop m) := ⟨_, rfl⟩
                rw [← he4]
                rw [HQF.out] at he4
                have HE4 := Lib.hid he4
                have HTK := Lib.hid htk
                clear htv htf htk he4 hB5 hl5 HQB k60 k75 HSRC HFNR HG5
                unfold msgV
                go_wp2_with ((refine wpList_store_ms rfl (.tmp 104) (.tmp 102) rfl gQ rfl t rfl (setBd A3 (n - m) c3 (xs.drop m) (setKd 58 q)) HQ5.out L1.out L2.out L3.out ?_); intro y6 HQ6 hb6 hz6 ho6; refine Hid.out ?_)
                refine Lib.hid ?_
                replace HR := Lib.hid (HR.out.stay (ho6 _ (by omega)))
                replace HZ := Lib.hid (HZ.out.stay (ho6 _ (by omega)))
                replace HQO := Lib.hid (HQO.out.below' hb6 (Nat.le_refl _))
                replace HOB := Lib.hid (HOB.out.others fun k hk => ho6 k (by omega))
                replace hL : Low w y6 := Below.trans hL (hb6.mono (by omega))
                replace HTK : Hid (t.ok y6 y6.heap.size) := Lib.hid (by
                  rw [hz6]
                  exact HTK.out.upperK HTF.out fun p h1 h2 => World.cell?_of_block (ho6 _ (by omega)))
                have HQZ := Lib.hid HQ6
                clear HQ5 HQ6 hb6 ho6
                have LQ1 : Hid ((setMs t (setBd A3 (n - m) c3 (xs.drop m) (setKd 58 q))).h.s.length = 16) := L1
                have LQ2 : Hid ((setMs t (setBd A3 (n - m) c3 (xs.drop m) (setKd 58 q))).h.d.length = 16) := L2
                have LQ3 : Hid ((setMs t (setBd A3 (n - m) c3 (xs.drop m) (setKd 58 q))).f.length = 16) := L3
                by_cases he4 : e4 = 0
                · subst he4
                  have HE := Lib.hid (show pkE xs = 0 by rw [HPKE.out]; unfold upE; rw [if_neg (by omega), if_pos rfl, ← HE4.out])
                  have HTW := Lib.hid (show t.v = parseM h.s (rtFin xs ps h.d) (xs.drop m) by rw [HTV.out, HQF.out])
                  clear HE4 HPKE HTV
                  go_wp2_with ((with_reducible refine wpList_load_pq pkt_ref rfl (.tmp 8) rfl gQ rfl (setMs t (setBd A3 (n - m) c3 (xs.drop m) (setKd 58 q))) HQZ.out LQ1.out LQ2.out LQ3.out ?_); refine Hid.out ?_)
                  refine Lib.hid ?_
                  go_wp2_with ((refine wpList_store_pq pkt_ref rfl (.tmp 2) (.tmp 109) rfl w.heap.size rfl (setMs t (setBd A3 (n - m) c3 (xs.drop m) (setKd 58 q))) rfl zeroQ HR.out rfl rfl rfl LQ1.out LQ2.out LQ3.out ?_); intro wF HG hbF hzF hoF; refine Hid.out ?_)
                  refine Lib.hid ?_
                  replace HG := Lib.hid HG
                  have HRk : Hid (q.r.ok wF wF.heap.size) := Lib.hid (by rw [hzF]; exact (HQO.out.r.upper HQRF.out (fun p h1 h2 => World.cell?_of_block (hoF _ (by omega)))).more (by omega))
                  have HMk : Hid (t.ok wF wF.heap.size) := Lib.hid (by rw [hzF]; exact HTK.out.upperK HTF.out fun p h1 h2 => World.cell?_of_block (hoF _ (by omega)))
                  have HTk : Hid (q.t.ok wF wF.heap.size) := Lib.hid (Sg.ok.empty HQO.out.t (congrArg Pb.t HQV.out))
                  have HBk : Hid (Bs wF wF.heap.size A3 (n - m) (xs.drop m)) := Lib.hid ((HOB.out.others fun k hk => hoF k (by omega)).bs (Nat.le_refl _))
                  have HOKF : Hid (Pq.ok wF wF.heap.size (setMs t (setBd A3 (n - m) c3 (xs.drop m) (setKd 58 q)))) := Lib.hid ⟨HQO.out.h, HRk.out, HQO.out.fl, HQO.out.fa, HLKO.out, HTk.out, HMk.out, by show n - m ≤ _; omega, HBk.out⟩
                  go_wp2_with fail
                  exact ret_pq pkt_ref Tryz.results5 rfl rfl HG.out LQ1.out LQ2.out LQ3.out (GivesPk.yes58 HQV.out HTW.out HE.out HSAY.out HOKF.out (Below.trans hL hbF)) rfl
                · have hne : (e4 != 0) = true := by simpa using he4
                  have HE4N := Lib.hid he4
                  have HE := Lib.hid (show pkE xs = e4 by rw [HPKE.out]; unfold upE; rw [if_neg (by omega), if_pos rfl, ← HE4.out])
                  clear he4
                  clear HTK HQZ HOB HQO LQ1 LQ2 LQ3
                  go_wp2_with ((with_reducible refine wpList_load_pq pkt_ref rfl (.tmp 4) rfl (w.heap.size + 1) rfl zeroQ HZ.out rfl rfl rfl ?_); refine Hid.out ?_)
                  refine Lib.hid ?_
                  go_wp2_with ((refine wpList_store_pq pkt_ref rfl (.tmp 2) (.tmp 107) rfl w.heap.size rfl zeroQ rfl zeroQ HR.out rfl rfl rfl rfl rfl rfl ?_); intro w14 HG hb14 hz14 ho14; refine Hid.out ?_)
                  refine Lib.hid ?_
                  replace HG := Lib.hid HG
                  go_wp2_with fail
                  exact ret_pq pkt_ref Tryz.results5 rfl rfl HG.out rfl rfl rfl (GivesPk.no HE.out HE4N.out (Below.trans hL hb14)) rfl
              · have n6 : (lk == 6) = false := by simpa using h6
                have n58 : (lk == 58) = false := by simpa using h58
                have HE := Lib.hid (show pkE xs = 7 by rw [HPKE.out]; unfold upE; rw [if_neg h6, if_neg h58])
                clear HQB HQO HOB HG5 HPKE HSAY
                go_wp2_with ((with_reducible refine wpList_load_pq pkt_ref rfl (.tmp 4) rfl (w.heap.size + 1) rfl zeroQ HZ.out rfl rfl rfl ?_); refine Hid.out ?_)
                refine Lib.hid ?_
                clear k60 k75
                go_wp2_with ((refine wpList_store_pq pkt_ref rfl (.tmp 2) (.tmp 107) rfl w.heap.size rfl zeroQ rfl zeroQ HR.out rfl rfl rfl rfl rfl rfl ?_); intro w14 HG hb14 hz14 ho14; refine Hid.out ?_)
                refine Lib.hid ?_
                replace HG := Lib.hid HG
                go_wp2_with fail
                exact ret_pq pkt_ref Tryz.results5 rfl rfl HG.out rfl rfl rfl (GivesPk.no HE.out (by omega) (Below.trans hL hb14)) rfl
          · have hne : (e3 != 0) = true := by simpa using he3
            have HE := Lib.hid (pk_none (k := e3) (show preE xs = e3 by rw [HP0.out, ← HE3.out]) he3)
            go_wp2_with (first | (with_reducible refine wpList_load_pq pkt_ref rfl (.tmp 4) rfl (w.heap.size + 1) rfl zeroQ HZ.out rfl rfl rfl ?_) | ((refine wpList_store_pq pkt_ref rfl (.tmp 2) (.tmp 51) rfl w.heap.size rfl zeroQ rfl zeroQ HR.out rfl rfl rfl rfl rfl rfl ?_); intro w12 HG hb12 hz12 ho12; refine Hid.out ?_))
            refine Lib.hid ?_
            replace HG := Lib.hid HG
            go_wp2_with fail
            exact ret_pq pkt_ref Tryz.results5 rfl rfl HG.out rfl rfl rfl (GivesPk.no HE.out he3 (Below.trans hL hb12)) rfl
        · have hne : (e2 != 0) = true := by simpa using he2
          have HE := Lib.hid (pk_none (k := e2) (show preE xs = e2 by rw [HPRE.out, if_neg he2]) he2)
          go_wp2_with (first | (with_reducible refine wpList_load_pq pkt_ref rfl (.tmp 4) rfl (w.heap.size + 1) rfl zeroQ HZ.out rfl rfl rfl ?_) | ((refine wpList_store_pq pkt_ref rfl (.tmp 2) (.tmp 39) rfl w.heap.size rfl zeroQ rfl zeroQ HR.out rfl rfl rfl rfl rfl rfl ?_); intro w12 HG hb12 hz12 ho12; refine Hid.out ?_))
          refine Lib.hid ?_
          replace HG := Lib.hid HG
          go_wp2_with fail
          exact ret_pq pkt_ref Tryz.results5 rfl rfl HG.out rfl rfl rfl (GivesPk.no HE.out he2 (Below.trans hL hb12)) rfl
      · have b2 : (h.ln != (n : Int) - 40) = true := by simpa using hln
        have HE := Lib.hid (pk_none (show preE xs = 5 by unfold preE; rw [if_neg hpE, if_pos hE0, ← HGL.out, HLN.out, if_neg hln]) (by omega))
        go_wp2_with (first | (with_reducible refine wpList_load_pq pkt_ref rfl (.tmp 4) rfl (w.heap.size + 1) rfl zeroQ HZ.out rfl rfl rfl ?_) | ((refine wpList_store_pq pkt_ref rfl (.tmp 2) (.tmp 29) rfl w.heap.size rfl zeroQ rfl zeroQ HR.out rfl rfl rfl rfl rfl rfl ?_); intro w7 HG hb7 hz7 ho7; refine Hid.out ?_))
        refine Lib.hid ?_
        replace HG := Lib.hid HG
        go_wp2_with fail
        exact ret_pq pkt_ref Tryz.results5 rfl rfl HG.out rfl rfl rfl (GivesPk.no HE.out (by omega) (Below.trans hL hb7)) rfl
    · have hne : (er != 0) = true := by simpa using he
      have HE := Lib.hid (pk_none (k := er) (show preE xs = er by unfold preE; rw [if_neg hpE, ← HER.out, if_neg he]) he)
      go_wp2_with (first | (with_reducible refine wpList_load_pq pkt_ref rfl (.tmp 4) rfl (w.heap.size + 1) rfl zeroQ HZ.out rfl rfl rfl ?_) | ((refine wpList_store_pq pkt_ref rfl (.tmp 2) (.tmp 21) rfl w.heap.size rfl zeroQ rfl zeroQ HR.out rfl rfl rfl rfl rfl rfl ?_); intro w7 HG hb7 hz7 ho7; refine Hid.out ?_))
      refine Lib.hid ?_
      replace HG := Lib.hid HG
      go_wp2_with fail
      exact ret_pq pkt_ref Tryz.results5 rfl rfl HG.out rfl rfl rfl (GivesPk.no HE.out he (Below.trans hL hb7)) rfl
end Go.Proofs.YtjafjapnmffohaaGreatDoor
