/- Stage 21: the walk of SlotsPlays, given the program's own table (wip/tools/gensle.py prints it). Conditions: each argument lies as the form says. -/
import Derived.Test.YtipggnjjmpacmaaSlD
set_option maxRecDepth 100000
namespace Go.Proofs.Ytipggnjjmpacmaa
open Go.RowKit
set_option linter.unusedVariables false

set_option maxHeartbeats 6400000 in
set_option maxRecDepth 100000 in
theorem slp_walk (O : SlObj) (N : Int) (A : Option Addr) (m c : Nat) (ops : List (Int × Int × Int)) (w : World) (hN : i64ok N) (hm : m ≤ 140737488355328) (ha : Es tr3E w w.heap.size A m ops) :
    Calls Try.prog 3 #[.int .i64 N, .slice A m c] w fun e w' => e = .returned (.bool true) ∧ Low w w' := by
  have HLV := Lib.hid fun u => sllives_any O u
  have HA := Lib.hid ha
  clear ha
  by_cases hr : 1 ≤ N ∧ N ≤ 256
  · obtain ⟨n, rfl⟩ : ∃ n : Nat, N = n := ⟨N.toNat, by omega⟩
    have hn1 : 1 ≤ n := by omega
    have hn2 : n ≤ 256 := by omega
    have hr1 : ¬ (n : Int) < 1 := by omega
    have hr2 : ¬ (256 : Int) < n := by omega
    clear hr hN
    go_enter Try.func3, Try.ntmps3
    go_wp2_with fail
    refine (O.new n w hn1 hn2).mono ?_
    rintro e w1 ⟨g, F0, rfl, hR, hF, hl⟩
    have HI := Lib.hid (show SlInv O w.heap.size w1.heap.size w1 (.pointer (some ⟨g, 0, none⟩)) n none 0 [] [] from ⟨F0, _, hR, by rw [pairsS_free], List.nodup_nil, hF, Nat.le_refl _, Es.nil _ _ _, offA.nil _ _, O.under hR⟩)
    have HOP := Lib.hid (HA.out.below hl)
    have HL := Lib.hid (show Below w.heap.size w w1 from hl)
    clear hR hF hl HA
    go_wp2_with fail
    go_loopw [6, 7] (fun v6 v7 wr => ∃ (i : Nat) (A' : Option Addr) (c' : Nat) (l : List (Int × Int)), i ≤ m ∧ i ≤ 100 ∧ v7 = .int .i64 i ∧ v6 = .slice A' l.length c' ∧ Hid (l.length ≤ i) ∧ Hid (SlInv O w.heap.size wr.heap.size wr (.pointer (some ⟨g, 0, none⟩)) n A' c' l l) ∧ Hid (Es tr3E wr w.heap.size A m ops) ∧ Hid (Below w.heap.size w wr)) (fun _ v _ => 100 - (intOf v).toNat)
    case atStart => exact ⟨0, none, 0, [], by omega, by omega, rfl, rfl, Lib.hid (by simp), HI, HOP, HL⟩
    case round =>
      clear HI HOP HL
      obtain ⟨i, A', c', l, hi, hi100, rfl, rfl, HLL, HI, HOP, HL⟩ := hrel
      by_cases hlt : i < m ∧ i < 100
      · have hlt1 : (i : Int) < m := by omega
        have hlt2 : (i : Int) < 100 := by omega
        obtain ⟨ob, oo, rfl, hob, c0, c1, c2, k0, k1, k2⟩ := tr3_at HOP.out hlt.1
        obtain ⟨K, hK⟩ : ∃ K, K = (ops.getD i (0, 0, 0)).1 := ⟨_, rfl⟩
        obtain ⟨k, hk⟩ : ∃ k, k = (ops.getD i (0, 0, 0)).2.1 := ⟨_, rfl⟩
        obtain ⟨v, hv⟩ : ∃ v, v = (ops.getD i (0, 0, 0)).2.2 := ⟨_, rfl⟩
        rw [← hK] at c0 k0
        rw [← hk] at c1 k1
        rw [← hv] at c2 k2
        have hlA := Low.alloc wr (.cells #[.int .i64 K, .int .i64 k, .int .i64 v] 29)
        have hbA : BlkV (wr.alloc (.cells #[.int .i64 K, .int .i64 k, .int .i64 v] 29)) 29 wr.heap.size [.int .i64 K, .int .i64 k, .int .i64 v] := BlkV.new wr 29 _
        have HK := Lib.hid k1
        have HV := Lib.hid k2
        have hLL := HLL.out
        replace HI := Lib.hid (HI.out.low hlA)
        replace HOP := Lib.hid (HOP.out.below (hlA.mono HL.out.size))
        replace HL := Lib.hid (HL.out.trans (hlA.mono HL.out.size))
        clear hK hk hv k1 k2 hlA HLL k0
        obtain ⟨q, hq⟩ : ∃ q, q = K.tmod 7 := ⟨_, rfl⟩
        by_cases hq1 : 0 ≤ q ∧ q ≤ 3
        · have hq2 : 0 ≤ q := hq1.1
          have hq3 : q ≤ 3 := hq1.2
          go_wp2_with fail
          refine (HI.out.put HL.out.size HK.out HV.out).mono ?_
          rintro e w8 ⟨rfl, hi8, hb8, hbk8⟩
          have hbo := (hbk8 wr.heap.size (Nat.le_refl _) hbA.lt).trans hbA
          have d1 : w8.cell? ⟨wr.heap.size, 1, none⟩ = some (.int .i64 k) := by rw [BlkV.cell hbo 1]; rfl
          have d2 : w8.cell? ⟨wr.heap.size, 2, none⟩ = some (.int .i64 v) := by rw [BlkV.cell hbo 2]; rfl
          clear hbk8 hbo
          replace HL := Lib.hid (HL.out.trans hb8)
          replace HOP := Lib.hid (HOP.out.below hb8)
          obtain ⟨b, hb⟩ : ∃ b, b = mayS l n k := ⟨_, rfl⟩
          have hsl2 : (putSl l n k v).length ≤ i + 1 := Nat.le_trans (putSl_len l n k v) (by omega)
          rw [← hb]
          replace hb := Lib.hid hb
          have HI8 := Lib.hid hi8
          have HKY := Lib.hid HI.out.keys
          clear hi8 hb8 HI
          go_wp2_with fail
          refine (rputSl_any A' l.length c' n l k v w8 (by omega) (HI8.out.lies).2 HK.out HV.out (HI8.out.lies).1 HKY.out).mono ?_
          intro e w9 hg
          rw [← hb.out] at hg
          obtain ⟨A9, c9, rfl, hi9, hl9⟩ := HI8.out.take hg
          have HI := Lib.hid hi9
          replace HOP := Lib.hid (HOP.out.below (hl9.mono HL.out.size))
          replace HL := Lib.hid (HL.out.trans (hl9.mono HL.out.size))
          clear hi9 hl9 hg HI8 HKY hb
          generalize putSl l n k v = s at *

          have hss : ((s.length : Int) != (s.length : Int)) = false := by simp
          have hnn : ((n : Int) != (n : Int)) = false := by simp
          have hbb : (b != b) = false := by simp
          have HSL2 := Lib.hid hsl2
          clear hsl2
          go_wp2_with fail
          refine (HI.out.len).mono ?_
          rintro e w10 ⟨rfl, hl⟩
          replace HI := Lib.hid (HI.out.low hl)
          replace HOP := Lib.hid (HOP.out.below (hl.mono HL.out.size))
          replace HL := Lib.hid (HL.out.trans (hl.mono HL.out.size))
          clear hl
          go_wp2_with fail
          refine (HI.out.cap).mono ?_
          rintro e w11 ⟨rfl, hl⟩
          replace HI := Lib.hid (HI.out.low hl)
          replace HOP := Lib.hid (HOP.out.below (hl.mono HL.out.size))
          replace HL := Lib.hid (HL.out.trans (hl.mono HL.out.size))
          clear hl hss hnn hbb d1 d2
          go_wp2_with fail
          go_roundw
          case rel => exact ⟨i + 1, A9, c9, s, by omega, by omega, by go_num, rfl, HSL2, Lib.hid HI.out.up, HOP, HL⟩
          case measure => simp [intOf]; omega
        · by_cases hq4 : q = 4 ∨ q = 5
          · have hq5 : (q == 4 || q == 5) = true := by rcases hq4 with e | e <;> rw [e] <;> rfl
            have hq6 : 3 < q := by omega
            have hq7 : 0 ≤ q := by omega
            clear hq1
            rcases hq4 with e4 | e4
            · rw [e4] at hq
              clear hq5 hq6 hq7 e4
              go_wp2_with fail
              refine (HI.out.del HL.out.size HK.out).mono ?_
              rintro e w8 ⟨rfl, hi8, hb8, hbk8⟩
              have hbo := (hbk8 wr.heap.size (Nat.le_refl _) hbA.lt).trans hbA
              have d1 : w8.cell? ⟨wr.heap.size, 1, none⟩ = some (.int .i64 k) := by rw [BlkV.cell hbo 1]; rfl
              have d2 : w8.cell? ⟨wr.heap.size, 2, none⟩ = some (.int .i64 v) := by rw [BlkV.cell hbo 2]; rfl
              clear hbk8 hbo
              replace HL := Lib.hid (HL.out.trans hb8)
              replace HOP := Lib.hid (HOP.out.below hb8)
              obtain ⟨b, hb⟩ : ∃ b, b = hasS l k := ⟨_, rfl⟩
              have hsl2 : (outS l k).length ≤ i + 1 := Nat.le_trans (outS_len l k) (by omega)
              rw [← hb]
              replace hb := Lib.hid hb
              have HI8 := Lib.hid hi8
              have HKY := Lib.hid HI.out.keys
              clear hi8 hb8 HI
              go_wp2_with fail
              refine (rdel_any A' l.length c' l k w8 (by omega) (HI8.out.lies).2 (HI8.out.lies).1 HKY.out).mono ?_
              intro e w9 hg
              rw [← hb.out] at hg
              obtain ⟨A9, c9, rfl, hi9, hl9⟩ := HI8.out.take hg
              have HI := Lib.hid hi9
              replace HOP := Lib.hid (HOP.out.below (hl9.mono HL.out.size))
              replace HL := Lib.hid (HL.out.trans (hl9.mono HL.out.size))
              clear hi9 hl9 hg HI8 HKY hb
              generalize outS l k = s at *

              have hss : ((s.length : Int) != (s.length : Int)) = false := by simp
              have hnn : ((n : Int) != (n : Int)) = false := by simp
              have hbb : (b != b) = false := by simp
              have HSL2 := Lib.hid hsl2
              clear hsl2
              go_wp2_with fail
              refine (HI.out.len).mono ?_
              rintro e w10 ⟨rfl, hl⟩
              replace HI := Lib.hid (HI.out.low hl)
              replace HOP := Lib.hid (HOP.out.below (hl.mono HL.out.size))
              replace HL := Lib.hid (HL.out.trans (hl.mono HL.out.size))
              clear hl
              go_wp2_with fail
              refine (HI.out.cap).mono ?_
              rintro e w11 ⟨rfl, hl⟩
              replace HI := Lib.hid (HI.out.low hl)
              replace HOP := Lib.hid (HOP.out.below (hl.mono HL.out.size))
              replace HL := Lib.hid (HL.out.trans (hl.mono HL.out.size))
              clear hl hss hnn hbb d1 d2
              go_wp2_with fail
              go_roundw
              case rel => exact ⟨i + 1, A9, c9, s, by omega, by omega, by go_num, rfl, HSL2, Lib.hid HI.out.up, HOP, HL⟩
              case measure => simp [intOf]; omega
            · rw [e4] at hq
              clear hq5 hq6 hq7 e4
              go_wp2_with fail
              refine (HI.out.del HL.out.size HK.out).mono ?_
              rintro e w8 ⟨rfl, hi8, hb8, hbk8⟩
              have hbo := (hbk8 wr.heap.size (Nat.le_refl _) hbA.lt).trans hbA
              have d1 : w8.cell? ⟨wr.heap.size, 1, none⟩ = some (.int .i64 k) := by rw [BlkV.cell hbo 1]; rfl
              have d2 : w8.cell? ⟨wr.heap.size, 2, none⟩ = some (.int .i64 v) := by rw [BlkV.cell hbo 2]; rfl
              clear hbk8 hbo
              replace HL := Lib.hid (HL.out.trans hb8)
              replace HOP := Lib.hid (HOP.out.below hb8)
              obtain ⟨b, hb⟩ : ∃ b, b = hasS l k := ⟨_, rfl⟩
              have hsl2 : (outS l k).length ≤ i + 1 := Nat.le_trans (outS_len l k) (by omega)
              rw [← hb]
              replace hb := Lib.hid hb
              have HI8 := Lib.hid hi8
              have HKY := Lib.hid HI.out.keys
              clear hi8 hb8 HI
              go_wp2_with fail
              refine (rdel_any A' l.length c' l k w8 (by omega) (HI8.out.lies).2 (HI8.out.lies).1 HKY.out).mono ?_
              intro e w9 hg
              rw [← hb.out] at hg
              obtain ⟨A9, c9, rfl, hi9, hl9⟩ := HI8.out.take hg
              have HI := Lib.hid hi9
              replace HOP := Lib.hid (HOP.out.below (hl9.mono HL.out.size))
              replace HL := Lib.hid (HL.out.trans (hl9.mono HL.out.size))
              clear hi9 hl9 hg HI8 HKY hb
              generalize outS l k = s at *

              have hss : ((s.length : Int) != (s.length : Int)) = false := by simp
              have hnn : ((n : Int) != (n : Int)) = false := by simp
              have hbb : (b != b) = false := by simp
              have HSL2 := Lib.hid hsl2
              clear hsl2
              go_wp2_with fail
              refine (HI.out.len).mono ?_
              rintro e w10 ⟨rfl, hl⟩
              replace HI := Lib.hid (HI.out.low hl)
              replace HOP := Lib.hid (HOP.out.below (hl.mono HL.out.size))
              replace HL := Lib.hid (HL.out.trans (hl.mono HL.out.size))
              clear hl
              go_wp2_with fail
              refine (HI.out.cap).mono ?_
              rintro e w11 ⟨rfl, hl⟩
              replace HI := Lib.hid (HI.out.low hl)
              replace HOP := Lib.hid (HOP.out.below (hl.mono HL.out.size))
              replace HL := Lib.hid (HL.out.trans (hl.mono HL.out.size))
              clear hl hss hnn hbb d1 d2
              go_wp2_with fail
              go_roundw
              case rel => exact ⟨i + 1, A9, c9, s, by omega, by omega, by go_num, rfl, HSL2, Lib.hid HI.out.up, HOP, HL⟩
              case measure => simp [intOf]; omega
          · have hq5 : ¬ K.tmod 7 = 4 := fun e => hq4 (.inl (hq.trans e))
            have hq6 : ¬ K.tmod 7 = 5 := fun e => hq4 (.inr (hq.trans e))
            have hq9 : (K.tmod 7 == 4) = false := by simpa using hq5
            have hq10 : (K.tmod 7 == 5) = false := by simpa using hq6
            rw [hq] at hq1
            clear hq4 hq
            clear q
            by_cases hq0 : 0 ≤ K.tmod 7
            · have hq8 : 3 < K.tmod 7 := by omega
              clear hq1
              go_wp2_with fail
              refine (HI.out.get HK.out).mono ?_
              rintro e w8 ⟨x, rfl, hx1, hx0, hl⟩
              have hbo := hbA.below hl hbA.lt
              have d1 : w8.cell? ⟨wr.heap.size, 1, none⟩ = some (.int .i64 k) := by rw [BlkV.cell hbo 1]; rfl
              clear hbo
              replace HI := Lib.hid (HI.out.low hl)
              replace HOP := Lib.hid (HOP.out.below (hl.mono HL.out.size))
              replace HL := Lib.hid (HL.out.trans (hl.mono HL.out.size))
              have HX1 := Lib.hid hx1
              have HX0 := Lib.hid hx0
              clear hl hx1 hx0
              cases hc : hasS l k with
              | true =>
                obtain ⟨j, hj, HE, hkj, _⟩ := findS_has hc
                have HX := Lib.hid (HX1.out hc (l.getD j (0, 0)).2 (by rw [← hkj, getD_pr l j hj]; exact List.getElem_mem hj))
                replace HE := Lib.hid HE
                clear HX1 HX0 hkj
                go_wp2_with fail
                refine (rfind_any A' l.length c' l k w8 (by omega) (HI.out.lies).1).mono ?_
                rintro e w9 ⟨rfl, rfl⟩
                rw [HE.out]
                obtain ⟨gb, go, rfl, _, _⟩ := (HI.out.lies).1.mem (by omega)
                have hc1 := (pr_cells (HI.out.lies).1 hj).2
                rw [← HX.out] at hc1
                have hj0 : (0 : Int) ≤ j := by omega
                have hjl : (j : Int) < l.length := by omega
                have hxx : (x != x) = false := by simp
                have hsl2 : l.length ≤ i + 1 := by omega
                obtain ⟨b, hb⟩ : ∃ b, b = true := ⟨_, rfl⟩
                obtain ⟨s, hs⟩ : ∃ s, s = l := ⟨_, rfl⟩
                replace hb := Lib.hid hb
                replace hs := Lib.hid hs
                clear HE HX hc
                have hss : ((l.length : Int) != (l.length : Int)) = false := by simp
                have hnn : ((n : Int) != (n : Int)) = false := by simp
                have HSL2 := Lib.hid hsl2
                clear hsl2
                go_wp2_with fail
                refine (HI.out.len).mono ?_
                rintro e w10 ⟨rfl, hl⟩
                replace HI := Lib.hid (HI.out.low hl)
                replace HOP := Lib.hid (HOP.out.below (hl.mono HL.out.size))
                replace HL := Lib.hid (HL.out.trans (hl.mono HL.out.size))
                clear hl
                go_wp2_with fail
                refine (HI.out.cap).mono ?_
                rintro e w11 ⟨rfl, hl⟩
                replace HI := Lib.hid (HI.out.low hl)
                replace HOP := Lib.hid (HOP.out.below (hl.mono HL.out.size))
                replace HL := Lib.hid (HL.out.trans (hl.mono HL.out.size))
                clear hl hss hnn hc1 hxx
                go_wp2_with fail
                go_roundw
                case rel => exact ⟨i + 1, some ⟨gb, go, none⟩, c', l, by omega, by omega, by go_num, rfl, HSL2, Lib.hid HI.out.up, HOP, HL⟩
                case measure => simp [intOf]; omega

              | false =>
                obtain rfl := HX0.out hc
                have HE := Lib.hid (show findS l k = -1 by unfold findS; rw [hc, if_neg (by simp)])
                clear HX1 HX0 hc
                go_wp2_with fail
                refine (rfind_any A' l.length c' l k w8 (by omega) (HI.out.lies).1).mono ?_
                rintro e w9 ⟨rfl, rfl⟩
                rw [HE.out]
                have hsl2 : l.length ≤ i + 1 := by omega
                clear HE
                have hss : ((l.length : Int) != (l.length : Int)) = false := by simp
                have hnn : ((n : Int) != (n : Int)) = false := by simp
                have HSL2 := Lib.hid hsl2
                clear hsl2
                go_wp2_with fail
                refine (HI.out.len).mono ?_
                rintro e w10 ⟨rfl, hl⟩
                replace HI := Lib.hid (HI.out.low hl)
                replace HOP := Lib.hid (HOP.out.below (hl.mono HL.out.size))
                replace HL := Lib.hid (HL.out.trans (hl.mono HL.out.size))
                clear hl
                go_wp2_with fail
                refine (HI.out.cap).mono ?_
                rintro e w11 ⟨rfl, hl⟩
                replace HI := Lib.hid (HI.out.low hl)
                replace HOP := Lib.hid (HOP.out.below (hl.mono HL.out.size))
                replace HL := Lib.hid (HL.out.trans (hl.mono HL.out.size))
                clear hl hss hnn
                go_wp2_with fail
                go_roundw
                case rel => exact ⟨i + 1, A', c', l, by omega, by omega, by go_num, rfl, HSL2, Lib.hid HI.out.up, HOP, HL⟩
                case measure => simp [intOf]; omega
            · have hq8 : K.tmod 7 < 0 := by omega
              clear hq1 hq0
              go_wp2_with fail
              refine (HI.out.get HK.out).mono ?_
              rintro e w8 ⟨x, rfl, hx1, hx0, hl⟩
              have hbo := hbA.below hl hbA.lt
              have d1 : w8.cell? ⟨wr.heap.size, 1, none⟩ = some (.int .i64 k) := by rw [BlkV.cell hbo 1]; rfl
              clear hbo
              replace HI := Lib.hid (HI.out.low hl)
              replace HOP := Lib.hid (HOP.out.below (hl.mono HL.out.size))
              replace HL := Lib.hid (HL.out.trans (hl.mono HL.out.size))
              have HX1 := Lib.hid hx1
              have HX0 := Lib.hid hx0
              clear hl hx1 hx0
              cases hc : hasS l k with
              | true =>
                obtain ⟨j, hj, HE, hkj, _⟩ := findS_has hc
                have HX := Lib.hid (HX1.out hc (l.getD j (0, 0)).2 (by rw [← hkj, getD_pr l j hj]; exact List.getElem_mem hj))
                replace HE := Lib.hid HE
                clear HX1 HX0 hkj
                go_wp2_with fail
                refine (rfind_any A' l.length c' l k w8 (by omega) (HI.out.lies).1).mono ?_
                rintro e w9 ⟨rfl, rfl⟩
                rw [HE.out]
                obtain ⟨gb, go, rfl, _, _⟩ := (HI.out.lies).1.mem (by omega)
                have hc1 := (pr_cells (HI.out.lies).1 hj).2
                rw [← HX.out] at hc1
                have hj0 : (0 : Int) ≤ j := by omega
                have hjl : (j : Int) < l.length := by omega
                have hxx : (x != x) = false := by simp
                have hsl2 : l.length ≤ i + 1 := by omega
                obtain ⟨b, hb⟩ : ∃ b, b = true := ⟨_, rfl⟩
                obtain ⟨s, hs⟩ : ∃ s, s = l := ⟨_, rfl⟩
                replace hb := Lib.hid hb
                replace hs := Lib.hid hs
                clear HE HX hc
                have hss : ((l.length : Int) != (l.length : Int)) = false := by simp
                have hnn : ((n : Int) != (n : Int)) = false := by simp
                have HSL2 := Lib.hid hsl2
                clear hsl2
                go_wp2_with fail
                refine (HI.out.len).mono ?_
                rintro e w10 ⟨rfl, hl⟩
                replace HI := Lib.hid (HI.out.low hl)
                replace HOP := Lib.hid (HOP.out.below (hl.mono HL.out.size))
                replace HL := Lib.hid (HL.out.trans (hl.mono HL.out.size))
                clear hl
                go_wp2_with fail
                refine (HI.out.cap).mono ?_
                rintro e w11 ⟨rfl, hl⟩
                replace HI := Lib.hid (HI.out.low hl)
                replace HOP := Lib.hid (HOP.out.below (hl.mono HL.out.size))
                replace HL := Lib.hid (HL.out.trans (hl.mono HL.out.size))
                clear hl hss hnn hc1 hxx
                go_wp2_with fail
                go_roundw
                case rel => exact ⟨i + 1, some ⟨gb, go, none⟩, c', l, by omega, by omega, by go_num, rfl, HSL2, Lib.hid HI.out.up, HOP, HL⟩
                case measure => simp [intOf]; omega

              | false =>
                obtain rfl := HX0.out hc
                have HE := Lib.hid (show findS l k = -1 by unfold findS; rw [hc, if_neg (by simp)])
                clear HX1 HX0 hc
                go_wp2_with fail
                refine (rfind_any A' l.length c' l k w8 (by omega) (HI.out.lies).1).mono ?_
                rintro e w9 ⟨rfl, rfl⟩
                rw [HE.out]
                have hsl2 : l.length ≤ i + 1 := by omega
                clear HE
                have hss : ((l.length : Int) != (l.length : Int)) = false := by simp
                have hnn : ((n : Int) != (n : Int)) = false := by simp
                have HSL2 := Lib.hid hsl2
                clear hsl2
                go_wp2_with fail
                refine (HI.out.len).mono ?_
                rintro e w10 ⟨rfl, hl⟩
                replace HI := Lib.hid (HI.out.low hl)
                replace HOP := Lib.hid (HOP.out.below (hl.mono HL.out.size))
                replace HL := Lib.hid (HL.out.trans (hl.mono HL.out.size))
                clear hl
                go_wp2_with fail
                refine (HI.out.cap).mono ?_
                rintro e w11 ⟨rfl, hl⟩
                replace HI := Lib.hid (HI.out.low hl)
                replace HOP := Lib.hid (HOP.out.below (hl.mono HL.out.size))
                replace HL := Lib.hid (HL.out.trans (hl.mono HL.out.size))
                clear hl hss hnn
                go_wp2_with fail
                go_roundw
                case rel => exact ⟨i + 1, A', c', l, by omega, by omega, by go_num, rfl, HSL2, Lib.hid HI.out.up, HOP, HL⟩
                case measure => simp [intOf]; omega
      · clear HOP
        have hll : l.length ≤ 100 := Nat.le_trans HLL.out hi100
        clear HLL
        by_cases him : i < m
        · have hlt1 : (i : Int) < m := by omega
          have hlt3 : (100 : Int) ≤ i := by omega
          clear hlt
          go_wp2_with fail
          go_loopw [15] (fun v wr2 => ∃ j : Nat, j ≤ l.length ∧ v = .int .i64 j ∧ Hid (SlInv O w.heap.size wr2.heap.size wr2 (.pointer (some ⟨g, 0, none⟩)) n A' c' l l) ∧ Hid (Below w.heap.size w wr2)) (fun v _ => l.length - (intOf v).toNat)
          case atStart => exact ⟨0, Nat.zero_le _, rfl, HI, HL⟩
          case round =>
            clear HI HL
            obtain ⟨j, hj, rfl, HI, HL⟩ := hrel
            by_cases hjl : j < l.length
            · have hjl2 : (j : Int) < l.length := by omega
              obtain ⟨gb, go, rfl, hgb, _⟩ := (HI.out.lies).1.mem (by omega)
              obtain ⟨p0, p1⟩ := pr_cells (HI.out.lies).1 hjl
              have HM := Lib.hid (show ((l.getD j (0, 0)).1, (l.getD j (0, 0)).2) ∈ l by rw [getD_pr l j hjl]; exact List.getElem_mem hjl)
              have HH := Lib.hid (hasS_iff.2 ⟨_, HM.out⟩)
              have HK := Lib.hid (Elt.all_getD (E := prE) (HI.out.lies).1.all j).1
              replace HK : Hid (i64ok (l.getD j (0, 0)).1) := HK
              generalize (l.getD j (0, 0)).1 = k at *
              generalize (l.getD j (0, 0)).2 = x at *
              go_wp2_with fail
              refine (HI.out.get HK.out).mono ?_
              rintro e w3 ⟨y, rfl, hy, _, hl⟩
              rw [HH.out]
              obtain rfl : y = x := hy HH.out x HM.out
              have p2 := (hl.cell (p := ⟨gb, go + j * 2 + 1, none⟩) hgb).trans p1
              have hxx : (y != y) = false := by simp
              replace HI := Lib.hid (HI.out.low hl).up
              replace HL := Lib.hid (HL.out.trans (hl.mono HL.out.size))
              clear hl hy p0 p1 hgb HM HH HK
              go_wp2_with fail
              go_roundw
              case rel => exact ⟨j + 1, by omega, by go_num, HI, HL⟩
              case measure => simp [intOf]; omega
            · obtain rfl : j = l.length := by omega
              have hjl2 : ¬ (l.length : Int) < l.length := by omega
              go_wp2_with fail
              refine (HLV.out wr).mono ?_
              rintro e w4 ⟨rfl, hl⟩
              have hL9 := Lib.hid (HL.out.trans (hl.mono HL.out.size))
              clear hl
              go_wp2_with fail
              go_ret
              exact ⟨rfl, hL9.out⟩
        · have hlt1 : ¬ (i : Int) < m := by omega
          clear hlt
          go_wp2_with fail
          go_loopw [15] (fun v wr2 => ∃ j : Nat, j ≤ l.length ∧ v = .int .i64 j ∧ Hid (SlInv O w.heap.size wr2.heap.size wr2 (.pointer (some ⟨g, 0, none⟩)) n A' c' l l) ∧ Hid (Below w.heap.size w wr2)) (fun v _ => l.length - (intOf v).toNat)
          case atStart => exact ⟨0, Nat.zero_le _, rfl, HI, HL⟩
          case round =>
            clear HI HL
            obtain ⟨j, hj, rfl, HI, HL⟩ := hrel
            by_cases hjl : j < l.length
            · have hjl2 : (j : Int) < l.length := by omega
              obtain ⟨gb, go, rfl, hgb, _⟩ := (HI.out.lies).1.mem (by omega)
              obtain ⟨p0, p1⟩ := pr_cells (HI.out.lies).1 hjl
              have HM := Lib.hid (show ((l.getD j (0, 0)).1, (l.getD j (0, 0)).2) ∈ l by rw [getD_pr l j hjl]; exact List.getElem_mem hjl)
              have HH := Lib.hid (hasS_iff.2 ⟨_, HM.out⟩)
              have HK := Lib.hid (Elt.all_getD (E := prE) (HI.out.lies).1.all j).1
              replace HK : Hid (i64ok (l.getD j (0, 0)).1) := HK
              generalize (l.getD j (0, 0)).1 = k at *
              generalize (l.getD j (0, 0)).2 = x at *
              go_wp2_with fail
              refine (HI.out.get HK.out).mono ?_
              rintro e w3 ⟨y, rfl, hy, _, hl⟩
              rw [HH.out]
              obtain rfl : y = x := hy HH.out x HM.out
              have p2 := (hl.cell (p := ⟨gb, go + j * 2 + 1, none⟩) hgb).trans p1
              have hxx : (y != y) = false := by simp
              replace HI := Lib.hid (HI.out.low hl).up
              replace HL := Lib.hid (HL.out.trans (hl.mono HL.out.size))
              clear hl hy p0 p1 hgb HM HH HK
              go_wp2_with fail
              go_roundw
              case rel => exact ⟨j + 1, by omega, by go_num, HI, HL⟩
              case measure => simp [intOf]; omega
            · obtain rfl : j = l.length := by omega
              have hjl2 : ¬ (l.length : Int) < l.length := by omega
              go_wp2_with fail
              refine (HLV.out wr).mono ?_
              rintro e w4 ⟨rfl, hl⟩
              have hL9 := Lib.hid (HL.out.trans (hl.mono HL.out.size))
              clear hl
              go_wp2_with fail
              go_ret
              exact ⟨rfl, hL9.out⟩
  · have HN := Lib.hid (fun u => O.newNot N u hN hr)
    by_cases h1 : N < 1
    · go_enter Try.func3, Try.ntmps3
      go_wp2_with fail
      refine (HN.out w).mono ?_
      rintro e w1 ⟨rfl, hl⟩
      have hL := Lib.hid hl
      clear hl
      go_wp2_with fail
      refine (HLV.out w1).mono ?_
      rintro e w2 ⟨rfl, hl⟩
      replace hL := Lib.hid (hL.out.trans hl)
      clear hl
      go_wp2_with fail
      go_ret
      exact ⟨rfl, hL.out⟩
    · have h2 : 256 < N := by omega
      go_enter Try.func3, Try.ntmps3
      go_wp2_with fail
      refine (HN.out w).mono ?_
      rintro e w1 ⟨rfl, hl⟩
      have hL := Lib.hid hl
      clear hl
      go_wp2_with fail
      refine (HLV.out w1).mono ?_
      rintro e w2 ⟨rfl, hl⟩
      replace hL := Lib.hid (hL.out.trans hl)
      clear hl
      go_wp2_with fail
      go_ret
      exact ⟨rfl, hL.out⟩
end Go.Proofs.Ytipggnjjmpacmaa
