/- The walk of harrierlaw13.PacketVia: it answers true, where the program's own functions tell what the page says. Conditions: these; at most 2^47 bytes and addresses. -/
import Derived.Test.YtdpbhhoabnmbpaaGreatLawPkM
import Derived.Test.YtdpbhhoabnmbpaaGreatPkC
set_option maxRecDepth 100000
namespace Go.Proofs.YtdpbhhoabnmbpaaGreat
open Go.RowKit
set_option linter.unusedVariables false

theorem exec_load_segq {f : Operand → Value} {dd : Option Tmp} {x : Operand} {ty : TypeId} {pos : String} {gd : Option (Nat × Bool)} {w : World} {b o : Nat} {s : Sg} (hx : f x = .pointer (some ⟨b, o, none⟩)) (h : w.rangeAt b o (segC s)) :
    (execOp f ⟨dd, .load 34 x, ty, pos, #[], gd⟩).run Tryz.prog w = .ok (.value (.agg (segC s).toArray)) w := by
  unfold execOp
  simp only [hx, Instr.loadAt, Instr.sureAddr, Sem.run_bind, Sem.run_pure, Result.andThen_ok, run_loadVar_mid w b o 34 (segC s) _ h Tryz.underlying34 rfl (by rw [seg_size]; simp [segC_length])]
theorem exec_load_msgq {f : Operand → Value} {dd : Option Tmp} {x : Operand} {ty : TypeId} {pos : String} {gd : Option (Nat × Bool)} {w : World} {b o : Nat} {s : Mg} (hx : f x = .pointer (some ⟨b, o, none⟩)) (h : w.rangeAt b o (msgC s)) :
    (execOp f ⟨dd, .load 36 x, ty, pos, #[], gd⟩).run Tryz.prog w = .ok (.value (.agg (msgC s).toArray)) w := by
  unfold execOp
  simp only [hx, Instr.loadAt, Instr.sureAddr, Sem.run_bind, Sem.run_pure, Result.andThen_ok, run_loadVar_mid w b o 36 (msgC s) _ h Tryz.underlying36 rfl (by rw [msg_size]; simp [msgC_length])]

set_option maxRecDepth 100000 in
set_option maxHeartbeats 6400000 in
theorem pkv_walk (hT : PktTcps) (hP : PktParses) (hR : PktReasons) (A : Option Addr) (n c : Nat) (xs : List Int) (vA : Option Addr) (m vc : Nat) (l : List (List Int)) (w : World) (hn : n ≤ 140737488351232) (hc : n ≤ c) (hc2 : c ≤ 9223372036854775807) (hb : Bs w w.heap.size A n xs) (hm : m ≤ 140737488351232) (hv : As w w.heap.size vA m l) :
    Calls Tryz.prog 5 #[.slice A n c, .slice vA m vc] w fun e w' => e = .returned (.bool true) ∧ Below w.heap.size w w' := by
  have HT := Lib.hid hT
  have HP := Lib.hid hP
  have HR := Lib.hid hR
  have HB := Lib.hid hb
  have HV := Lib.hid hv
  clear hT hP hR hb hv
  go_enter Tryz.func5, Tryz.ntmps5
  go_wp2_with fail
  refine (HP.out A n c xs w hn hc hc2 HB.out).mono ?_
  intro e w1 hq
  obtain ⟨p, rfl, hpv, hpk, hB1, l1, l2, l3⟩ := hq.lens
  have HPV := Lib.hid hpv
  have HPK := Lib.hid hpk
  have L1 := Lib.hid l1
  have L2 := Lib.hid l2
  have L3 := Lib.hid l3
  have hL : Low w w1 := hB1
  replace HB := Lib.hid (HB.out.below' hL hL.size)
  replace HV := Lib.hid (HV.out.below' hL hL.size)
  obtain ⟨er, her⟩ : ∃ er, er = pkE xs := ⟨_, rfl⟩
  rw [← her]
  have HER := Lib.hid her
  clear hq hpv hpk hB1 l1 l2 l3 her
  unfold pqV
  go_wp2_with ((with_reducible refine wpList_alloc_pq pkt_own rfl rfl ?_); intro w2 HZ hl2 hz2; refine Hid.out ?_)
  refine Lib.hid ?_
  go_wp2_with ((refine wpList_store_pq pkt_own rfl (.tmp 5) (.tmp 14) rfl w1.heap.size rfl p rfl zeroQ HZ rfl rfl rfl L1.out L2.out L3.out ?_); intro w3 HG1 hb3 hz3 ho3; refine Hid.out ?_)
  refine Lib.hid ?_
  have hl3 : Low w1 w3 := Below.trans hl2 hb3
  replace hL := hL.trans hl3
  replace HB := Lib.hid (HB.out.below' hl3 hl3.size)
  replace HV := Lib.hid (HV.out.below' hl3 hl3.size)
  replace HPK := Lib.hid (HPK.out.low hl3)
  replace HG1 := Lib.hid HG1
  obtain ⟨g1, hg1⟩ : ∃ g, g = w1.heap.size := ⟨_, rfl⟩
  rw [← hg1] at HG1 ⊢
  clear HZ hl2 hb3 hz2 hz3 ho3 hl3 hg1
  have k37 := rangeAt_one (HG1.out.rt L1.out L2.out L3.out)
  obtain ⟨rt, hrt⟩ : ∃ rt, rt = p.rt := ⟨_, rfl⟩
  rw [← hrt] at k37
  have HRT := Lib.hid hrt
  clear hrt
  by_cases he : er = 0
  · subst he
    cases rt
    · by_cases h40 : 40 < m
      · have q1 : (40 : Int) < m := by omega
        go_wp2_with fail
        refine (pklives_any HT.out HP.out HR.out _).mono ?_
        rintro e w4 ⟨rfl, hl⟩
        replace hL := Low.trans hL hl
        clear hl
        go_wp2_with fail
        go_ret
        exact ⟨rfl, hL⟩
      · have q1 : ¬ (40 : Int) < m := by omega
        have hE0 : pkE xs = 0 := HER.out.symm
        have hsv : p.v = pkSays xs := by rw [HPV.out]; unfold pkB; rw [if_pos hE0]
        have hrt0 : rtIs (pkW xs).1 = false := by rw [← show p.rt = rtIs (pkW xs).1 from congrArg Pb.rt hsv, ← HRT.out]
        have HSV := Lib.hid hsv
        have HR0 := Lib.hid hrt0
        have HE0 := Lib.hid hE0
        clear hsv hrt0 hE0
        go_wp2_with fail
        refine (insert_any A n c xs vA m vc l none 0 0 [] w3 (by omega) hc hc2 HB.out hm HV.out (by omega) (Os.nil _ _ _)).mono ?_
        rintro e w4 ⟨A2, k2, rfl, hk2, hk3, hb2, hl⟩
        simp only [List.map_nil] at hk2 hb2 ⊢
        replace hL := Low.trans hL hl
        replace HV := Lib.hid (HV.out.below' hl hl.size)
        replace HPK := Lib.hid (HPK.out.low hl)
        replace HG1 := Lib.hid (HG1.out.below hl HG1.out.lt)
        have HB2 := Lib.hid hb2
        obtain ⟨x2, hx2⟩ : ∃ x, x = insE xs l [] := ⟨_, rfl⟩
        rw [← hx2]
        have HX2 := Lib.hid hx2
        have HAX := Lib.hid HB.out.all
        clear hb2 hl hx2 HB k37
        by_cases hi : x2 = 0
        · subst hi
          have hi0 : insE xs l [] = 0 := HX2.out.symm
          obtain ⟨-, -, ⟨hm0, hm9⟩, -, -⟩ := insE_zero hi0
          rw [HV.out.len] at hm0
          have hvb := via_back HAX.out HV.out.all hi0 HE0.out HR0.out
          have hlen := ins_len HAX.out HV.out.all hi0
          have HGO := Lib.hid (show goH xs l [] = goH xs l [] from rfl)
          obtain ⟨ys, hys⟩ : ∃ ys, ys = insL xs l [] := ⟨_, rfl⟩
          rw [← hys] at hvb hlen HB2 hk2 ⊢
          have HVB := Lib.hid hvb
          obtain ⟨n2, hn2⟩ : ∃ n, n = ys.length := ⟨_, rfl⟩
          rw [← hn2] at HB2 hk2 hlen ⊢
          clear hvb hys hn2 hi0
          go_wp2_with fail
          refine (HP.out A2 n2 k2 ys w4 (by omega) hk2 hk3 HB2.out).mono ?_
          intro e w5 hq
          obtain ⟨q, rfl, hqv, hqk, hB5, m1, m2, m3⟩ := hq.lens
          have HQV := Lib.hid hqv
          have HQK := Lib.hid hqk
          have M1 := Lib.hid m1
          have M2 := Lib.hid m2
          have M3 := Lib.hid m3
          have hl5 : Low w4 w5 := hB5
          replace hL := hL.trans hl5
          replace HV := Lib.hid (HV.out.below' hl5 hl5.size)
          replace HPK := Lib.hid (HPK.out.low hl5)
          have hlt1 := HG1.out.lt
          replace HG1 := Lib.hid (HG1.out.below hl5 HG1.out.lt)
          have hlt2 := HG1.out.lt
          obtain ⟨e2, he2⟩ : ∃ e, e = pkE ys := ⟨_, rfl⟩
          rw [← he2]
          have HE2 := Lib.hid he2
          clear hq hqv hqk hB5 hl5 m1 m2 m3 he2 HB2 hk2
          unfold pqV
          go_wp2_with ((with_reducible refine wpList_alloc_pq pkt_own rfl rfl ?_); intro w6 HZ hl6 hz6; refine Hid.out ?_)
          refine Lib.hid ?_
          go_wp2_with ((refine wpList_store_pq pkt_own rfl (.tmp 9) (.tmp 40) rfl w5.heap.size rfl q rfl zeroQ HZ rfl rfl rfl M1.out M2.out M3.out ?_); intro w7 HG2 hb7 hz7 ho7; refine Hid.out ?_)
          refine Lib.hid ?_
          have hl7 : Low w5 w7 := Below.trans hl6 hb7
          replace hL := hL.trans hl7
          replace HV := Lib.hid (HV.out.below' hl7 hl7.size)
          replace HPK := Lib.hid (HPK.out.low hl7)
          replace HQK := Lib.hid (HQK.out.low hl7)
          replace HG1 := Lib.hid (HG1.out.below hl7 hlt2)
          replace HG2 := Lib.hid HG2
          obtain ⟨g2, hg2⟩ : ∃ g, g = w5.heap.size := ⟨_, rfl⟩
          rw [← hg2] at HG2 ⊢
          clear HZ hl6 hb7 hz6 hz7 ho7 hl7 hg2 hlt1 hlt2
          have k3 : w7.cell? ⟨g1, 3, none⟩ = some (.int .i64 p.h.nx) := HG1.out.head 3 _ rfl
          have HNX := Lib.hid (show p.h.nx = (getL xs).nx from congrArg (fun b : Pb => b.h.nx) HSV.out)
          obtain ⟨nx, hnx⟩ : ∃ nx, nx = p.h.nx := ⟨_, rfl⟩
          rw [← hnx] at k3
          have hnx2 : (getL xs).nx = nx := by rw [hnx, HNX.out]
          rw [hnx2] at HVB
          clear hnx hnx2 HNX
          by_cases hup : nx = 6 ∨ nx = 58
          · obtain ⟨hE2, hB2⟩ : pkE ys = 0 ∧ pkB ys = ⟨goH xs l [], true, viaR xs l [], pkFin xs, (pkUp xs).k, upT (pkUp xs).k (pkBody xs), upM (getL xs).s (pkFin xs) (pkUp xs).k (pkBody xs), pkBody xs⟩ := by
              rcases HVB.out with ⟨_, h1, h2⟩ | h
              · exact absurd hup (by omega)
              · exact h
            have h20 : e2 = 0 := HE2.out.trans hE2
            subst h20
            have HQS := Lib.hid (HQV.out.trans hB2)
            have HRT2 := Lib.hid (show q.rt = true from congrArg Pb.rt HQS.out)
            have HF := Lib.hid (show q.f = p.f from (congrArg Pb.f HQS.out).trans (congrArg Pb.f HSV.out).symm)
            have HK := Lib.hid (show q.k = p.k from (congrArg Pb.k HQS.out).trans (congrArg Pb.k HSV.out).symm)
            have HTT := Lib.hid (show q.t.v = p.t.v from (congrArg Pb.t HQS.out).trans (congrArg Pb.t HSV.out).symm)
            have HMM := Lib.hid (show q.m.v = p.m.v from (congrArg Pb.m HQS.out).trans (congrArg Pb.m HSV.out).symm)
            have HBB := Lib.hid (show q.bs = p.bs from (congrArg Pb.bs HQS.out).trans (congrArg Pb.bs HSV.out).symm)
            have HHD := Lib.hid (show q.h.d = l.getD 0 zero16 from congrArg (fun b : Pb => b.h.d) HQS.out)
            clear hE2 hB2 HQS HQV HSV HVB HE2 HPV HER HX2 HE0 HR0
            by_cases h6 : nx = 6
            case' pos =>
              have n6 : (nx != 6) = false := by simpa using h6
              go_wp2_with fail
            case' neg =>
              have n6 : (nx != 6) = true := by simpa using h6
              have n58 : (nx != 58) = false := by simp; omega
              go_wp2_with fail
            all_goals
              clear k3
              refine wp_region_plan (.rd 0 (.rd 1 (.rd 2 (.rd 3 (.rd 4 (.rd 5 (.rd 6 (.rd 7 (.rd 8 (.rd 9 (.rd 10 (.rd 11 (.rd 12 (.rd 13 (.rd 14 (.rd 15 (.rd 16 (.rd 17 (.rd 18 (.rd 19 (.rd 20 (.rd 21 (.rd 22 (.rd 23 (.rd 24 (.rd 25 (.rd 26 (.rd 27 (.rd 28 (.rd 29 (.rd 30 (.rd 31 (.rd 32 (.rd 33 (.act 34 (.rd 35 (.rd 36 (.rd 37 (.rd 38 (.rd 39 (.rd 40 (.act 41 (.rd 42 (.rd 43 (.rd 44 (.rd 45 (.rd 46 (.rd 47 (.rd 48 (.rd 49 (.rd 50 (.rd 51 (.rd 52 (.act 53 (.rd 54 (.rd 55 (.done))))))))))))))))))))))))))))))))))))))))))))))))))))))))) (by kernel_rfl) (by kernel_rfl) (fun _ _ d _ _ h => by cases d <;> exact h) (by kernel_rfl) ?_
              have hlD : Low w7 w7.drew := Below.drew (Below.refl w7.heap.size w7)
              replace hL := hL.trans hlD
              replace HV := Lib.hid (HV.out.below' hlD hlD.size)
              replace HPK := Lib.hid (HPK.out.low hlD)
              replace HQK := Lib.hid (HQK.out.low hlD)
              replace HG1 := Lib.hid (HG1.out.below hlD HG1.out.lt)
              replace HG2 := Lib.hid (HG2.out.below hlD HG2.out.lt)
              clear hlD
              generalize w7.drew = u at *
              obtain ⟨vb, vo, rfl, hvlt, -⟩ := HV.out.mem hm0
              have HVR : Hid (u.rangeAt vb vo (cellsB (l.getD 0 zero16))) := Lib.hid (by have h := (HV.out.at_ (i := 0) hm0).2; rwa [Nat.zero_mul, Nat.add_zero] at h)
              have HVL := Lib.hid (HV.out.all.getD 0).1
              obtain ⟨x0, hx0⟩ : ∃ x, x = l.getD 0 zero16 := ⟨_, rfl⟩
              rw [← hx0] at HVR HVL HHD
              obtain ⟨f0, hf0⟩ : ∃ f, f = p.f := ⟨_, rfl⟩
              rw [← hf0] at HF
              have F0 : Hid (f0.length = 16) := Lib.hid (by rw [hf0]; exact L3.out)
              have HF1 : Hid (u.rangeAt g1 44 (cellsB f0)) := Lib.hid (by have h := HG1.out.fin L1.out L2.out L3.out; rwa [← hf0] at h)
              have HF2 : Hid (u.rangeAt g2 44 (cellsB f0)) := Lib.hid (by have h := HG2.out.fin M1.out M2.out M3.out; rwa [HF.out] at h)
              have HD2 : Hid (u.rangeAt g2 21 (cellsB x0)) := Lib.hid (by have h := BlkQ.dst HG2.out M1.out; rwa [HHD.out] at h)
              have r37 : u.cell? ⟨g2, 37, none⟩ = some (.bool true) := by have h := rangeAt_one (HG2.out.rt M1.out M2.out M3.out); rwa [HRT2.out] at h
              obtain ⟨kd, hkd⟩ : ∃ k, k = p.k := ⟨_, rfl⟩
              have r60 : u.cell? ⟨g1, 60, none⟩ = some (.int .i64 kd) := by have h := rangeAt_one (HG1.out.kd L1.out L2.out L3.out); rwa [← hkd] at h
              have s60 : u.cell? ⟨g2, 60, none⟩ = some (.int .i64 kd) := by have h := rangeAt_one (HG2.out.kd M1.out M2.out M3.out); rwa [HK.out, ← hkd] at h
              have r75 := rangeAt_one (HG1.out.bd L1.out L2.out L3.out)
              have s75 := rangeAt_one (HG2.out.bd M1.out M2.out M3.out)
              have HT1 := Lib.hid (HG1.out.tc L1.out L2.out L3.out)
              have HT2 := Lib.hid (HG2.out.tc M1.out M2.out M3.out)
              have HM1 := Lib.hid (HG1.out.ms L1.out L2.out L3.out)
              have HM2 := Lib.hid (HG2.out.ms M1.out M2.out M3.out)
              have hg1 := HG1.out.lt
              have hg2 := HG2.out.lt
              have hm0i : (0 : Int) < m := by omega
              clear hx0 hf0 hkd HV HF HK HHD HRT2 HG1 HG2 L1 L2 L3 M1 M2 M3
              iterate 34 (refine walkP_read (v := _) rfl (by rfl) (by
                intro y hy
                have y37 := (hy.cell (p := ⟨g2, 37, none⟩) hg2).trans r37
                have y60 := (hy.cell (p := ⟨g1, 60, none⟩) hg1).trans r60
                have z60 := (hy.cell (p := ⟨g2, 60, none⟩) hg2).trans s60
                have EF := eq_addr f0 f0 F0.out F0.out
                have EX := eq_addr x0 x0 HVL.out HVL.out
                simp only [beq_self_eq_true] at EF EX
                first
                  | exact exec_load_at rfl F0.out (rangeAt_below HF1.out hy hg1)
                  | exact exec_load_at rfl F0.out (rangeAt_below HF2.out hy hg2)
                  | exact exec_load_at rfl HVL.out (rangeAt_below HD2.out hy hg2)
                  | exact exec_load_at rfl HVL.out (rangeAt_below HVR.out hy hvlt)
                  | exact exec_load_segq rfl (rangeAt_below HT1.out hy hg1)
                  | exact exec_load_segq rfl (rangeAt_below HT2.out hy hg2)
                  | (go_simp; try rfl)) ?_; simp only [Act.put, List.setIfInBounds_toArray, List.set_cons_zero, List.set_cons_succ])
              refine walkP_act rfl (by rfl) (fun K hK => ?_)
              go_simp
              refine (tcsame_eq q.t p.t u HQK.out.t HPK.out.t HTT.out).mono ?_
              rintro e u2 ⟨rfl, hl⟩
              go_simp
              refine hK _ _ hl ?_
              clear hK K
              replace hL := Low.trans hL hl
              replace HPK := Lib.hid (HPK.out.low hl)
              replace HQK := Lib.hid (HQK.out.low hl)
              replace HM1 := Lib.hid (rangeAt_below HM1.out hl hg1)
              replace HM2 := Lib.hid (rangeAt_below HM2.out hl hg2)
              replace r75 := (Below.cell hl (p := ⟨g1, 75, none⟩) hg1).trans r75
              replace s75 := (Below.cell hl (p := ⟨g2, 75, none⟩) hg2).trans s75
              replace hg1 := Nat.lt_of_lt_of_le hg1 (Below.size hl)
              replace hg2 := Nat.lt_of_lt_of_le hg2 (Below.size hl)
              clear hl HF1 HF2 HD2 HVR r37 r60 s60 HT1 HT2 HTT
              iterate 6 (refine walkP_read (v := _) rfl (by rfl) (by
                intro y hy
                first
                  | exact exec_load_msgq rfl (rangeAt_below HM1.out hy hg1)
                  | exact exec_load_msgq rfl (rangeAt_below HM2.out hy hg2)
                  | (go_simp; try rfl)) ?_; simp only [Act.put, List.setIfInBounds_toArray, List.set_cons_zero, List.set_cons_succ])
              refine walkP_act rfl (by rfl) (fun K hK => ?_)
              go_simp
              refine (icsame_eq q.m p.m u2 HQK.out.m HPK.out.m HMM.out).mono ?_
              rintro e u3 ⟨rfl, hl⟩
              go_simp
              refine hK _ _ hl ?_
              clear hK K
              replace hL := Low.trans hL hl
              replace HPK := Lib.hid (HPK.out.low hl)
              replace HQK := Lib.hid (HQK.out.low hl)
              replace r75 := (Below.cell hl (p := ⟨g1, 75, none⟩) hg1).trans r75
              replace s75 := (Below.cell hl (p := ⟨g2, 75, none⟩) hg2).trans s75
              replace hg1 := Nat.lt_of_lt_of_le hg1 (Below.size hl)
              replace hg2 := Nat.lt_of_lt_of_le hg2 (Below.size hl)
              clear hl HM1 HM2 HMM
              have HB1 := Lib.hid HPK.out.bs
              have HB2 := Lib.hid HQK.out.bs
              rw [HBB.out] at HB2
              iterate 11 (refine walkP_read (v := _) rfl (by rfl) (by
                intro y hy
                have y75 := (hy.cell (p := ⟨g1, 75, none⟩) hg1).trans r75
                have z75 := (hy.cell (p := ⟨g2, 75, none⟩) hg2).trans s75
                have cv1 := conv_bs (c := p.bc) (HB1.out.below' hy hy.size)
                have cv2 := conv_bs (c := q.bc) (HB2.out.below' hy hy.size)
                go_simp; try rfl) ?_; simp only [Act.put, List.setIfInBounds_toArray, List.set_cons_zero, List.set_cons_succ])
              refine walkP_act rfl (by rfl) (fun K hK => ?_)
              go_simp
              refine (pklives_any HT.out HP.out HR.out u3).mono ?_
              rintro e u4 ⟨rfl, hl⟩
              go_simp
              refine hK _ _ hl ?_
              clear hK K
              replace hL := Low.trans hL hl
              clear hl
              iterate 2 (refine walkP_read (v := _) rfl (by rfl) (by intro y hy; go_simp; try rfl) ?_; simp only [Act.put, List.setIfInBounds_toArray, List.set_cons_zero, List.set_cons_succ])
              unfold walkP
              go_wp2
              go_ret
              exact ⟨rfl, hL⟩
          · have n6 : (nx != 6) = true := by simp; omega
            have n58 : (nx != 58) = true := by simp; omega
            have hE2 : e2 = 8 ∨ e2 = 0 := by
              rw [HE2.out]
              rcases HVB.out with ⟨h, -, -⟩ | ⟨h, -⟩
              · exact .inl h
              · exact .inr h
            clear HQV HSV HVB HE2 HV HPK HQK HG1 HG2
            rcases hE2 with rfl | rfl
            all_goals
              go_wp2_with fail
              refine (pklives_any HT.out HP.out HR.out _).mono ?_
              rintro e w8 ⟨rfl, hl⟩
              replace hL := Low.trans hL hl
              clear hl
              go_wp2_with fail
              go_ret
              exact ⟨rfl, hL⟩
        · have hne2 : (x2 != 0) = true := by simpa using hi
          clear HB2 HX2
          go_wp2_with fail
          refine (pklives_any HT.out HP.out HR.out _).mono ?_
          rintro e w5 ⟨rfl, hl⟩
          replace hL := Low.trans hL hl
          clear hl
          go_wp2_with fail
          go_ret
          exact ⟨rfl, hL⟩
    · clear HB HV HPK
      go_wp2_with fail
      refine (pklives_any HT.out HP.out HR.out _).mono ?_
      rintro e w4 ⟨rfl, hl⟩
      replace hL := Low.trans hL hl
      clear hl
      go_wp2_with fail
      go_ret
      exact ⟨rfl, hL⟩
  · have hne : (er != 0) = true := by simpa using he
    clear HB HV HPK
    go_wp2_with fail
    refine (pklives_any HT.out HP.out HR.out _).mono ?_
    rintro e w4 ⟨rfl, hl⟩
    replace hL := Low.trans hL hl
    clear hl
    go_wp2_with fail
    go_ret
    exact ⟨rfl, hL⟩
end Go.Proofs.YtdpbhhoabnmbpaaGreat
