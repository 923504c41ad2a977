/- Stage 22: the walk of RecentPlays, given the program's own list (wip/tools/genrcd.py prints it). Conditions: each argument lies as the form says. -/
import Derived.Test.YtpphkmedlpdccaaRcC
set_option maxRecDepth 100000
namespace Go.Proofs.Ytpphkmedlpdccaa
open Go.RowKit
set_option linter.unusedVariables false

theorem contains_takeR (l : List Int) (i : Nat) (x : Int) (h : i < l.length) : (l.take (i + 1)).contains x = ((l.take i).contains x || l.getD i 0 == x) := by
  rw [List.take_succ_eq_append_getElem h]
  have e : l.getD i 0 = l[i] := by simp [List.getD, h]
  rw [e, Bool.eq_iff_iff]
  simp only [List.contains_iff_mem, List.mem_append, List.mem_singleton, Bool.or_eq_true, beq_iff_eq]
  constructor
  · rintro (h | h)
    · exact .inl h
    · exact .inr h.symm
  · rintro (h | h)
    · exact .inl h
    · exact .inr h.symm

set_option maxHeartbeats 6400000 in
set_option maxRecDepth 100000 in
theorem rcp_walk (O : RcObj) (N : Int) (A : Option Addr) (m c : Nat) (ops : List (Int × Int)) (w : World) (hN : i64ok N) (hm : m ≤ 140737488355328) (ha : Es prE w w.heap.size A m ops) :
    Calls Try.prog 3 #[.int .i64 N, .slice A m c] w fun e w' => e = .returned (.bool true) ∧ Low w w' := by
  have HLV := Lib.hid fun u => rclives_any O u
  have HA := Lib.hid ha
  clear ha
  by_cases hr : 1 ≤ N ∧ N ≤ 256
  · obtain ⟨n, rfl⟩ : ∃ n : Nat, N = n := ⟨N.toNat, by omega⟩
    have hn1 : 1 ≤ n := by omega
    have hn2 : n ≤ 256 := by omega
    have hr1 : ¬ (n : Int) < 1 := by omega
    have hr2 : ¬ (256 : Int) < n := by omega
    clear hr hN
    go_enter Try.func3, Try.ntmps3
    go_wp2_with fail
    refine (O.new n w hn1 hn2).mono ?_
    rintro e w1 ⟨g, F0, rfl, hR, hF, hl⟩
    have HI := Lib.hid (show RcInv O w.heap.size w1 (.pointer (some ⟨g, 0, none⟩)) n none 0 [] [] from ⟨F0, hR, hF, Nat.le_refl _, Ns.nil _ _ _, offA.nil _ _⟩)
    have HOP := Lib.hid (HA.out.below hl)
    have HL := Lib.hid (show Below w.heap.size w w1 from hl)
    clear hR hF hl HA
    go_wp2_with fail
    clear hr1 hr2
    go_loopw [6, 7] (fun v6 v7 wr => ∃ (i : Nat) (A' : Option Addr) (c' : Nat) (l : List Int), i ≤ m ∧ i ≤ 100 ∧ v7 = .int .i64 i ∧ v6 = .slice A' l.length c' ∧ Hid (RcInv O w.heap.size wr (.pointer (some ⟨g, 0, none⟩)) n A' c' l l) ∧ Hid (Es prE wr w.heap.size A m ops) ∧ Hid (Below w.heap.size w wr)) (fun _ v _ => 100 - (intOf v).toNat)
    case atStart => exact ⟨0, none, 0, [], by omega, by omega, rfl, rfl, HI, HOP, HL⟩
    case round =>
      clear HI HOP HL
      obtain ⟨i, A', c', l, hi, hi100, rfl, rfl, HI, HOP, HL⟩ := hrel
      by_cases hlt : i < m ∧ i < 100
      · have hlt1 : (i : Int) < m := by omega
        have hlt2 : (i : Int) < 100 := by omega
        have hll := HI.out.right.2
        obtain ⟨ob, oo, rfl, _, _⟩ := HOP.out.mem (by omega)
        obtain ⟨c0, c1⟩ := pr_cells HOP.out hlt.1
        have HX := Lib.hid (Elt.all_getD (E := prE) HOP.out.all i).2
        replace HX : Hid (i64ok (ops.getD i (0, 0)).2) := HX
        generalize (ops.getD i (0, 0)).1 = K at *
        generalize (ops.getD i (0, 0)).2 = x at *
        by_cases hk : K.tmod 3 = 0 ∨ K.tmod 3 = 1
        · by_cases hx0 : 0 ≤ x
          · by_cases hxn : x < n
            · have HMY := Lib.hid (show mayR n x = true by unfold mayR; rw [decide_eq_true hx0, decide_eq_true hxn]; rfl)
              have HTO := Lib.hid (show toR n l x = touchR l x by unfold toR; rw [if_pos HMY.out])
              rcases hk with hk | hk
              · go_wp2_with fail
                refine (HI.out.touch HL.out.size HX.out).mono ?_
                rintro e w8 ⟨rfl, hi8, hb8⟩
                rw [HMY.out]
                replace HOP := Lib.hid (HOP.out.below hb8)
                replace HL := Lib.hid (HL.out.trans hb8)
                rw [HTO.out] at hi8
                have HI8 := Lib.hid hi8
                clear hi8 hb8 HI
                go_wp2_with fail
                refine (rtouchR_any A' l.length c' l x w8 (by omega) HX.out (HI8.out.lies).1).mono ?_
                rintro e w9 ⟨A9, c9, rfl, hc9, ho9, hl9⟩
                have HI := Lib.hid (HI8.out.take hc9 ho9 hl9)
                replace HOP := Lib.hid (HOP.out.below (hl9.mono HL.out.size))
                replace HL := Lib.hid (HL.out.trans (hl9.mono HL.out.size))
                clear hc9 ho9 hl9 HI8 HTO
                generalize touchR l x = s at *

                have hsl := HI.out.right.2
                have hss : ((s.length : Int) != (s.length : Int)) = false := by simp
                by_cases hs0 : s.length = 0
                · obtain rfl : s = [] := List.eq_nil_of_length_eq_zero hs0
                  clear hs0 hsl
                  go_wp2_with fail
                  refine (HI.out.oldest).mono ?_
                  rintro e w10 ⟨rfl, hl⟩
                  replace HI := Lib.hid (HI.out.low hl)
                  replace HOP := Lib.hid (HOP.out.below (hl.mono HL.out.size))
                  replace HL := Lib.hid (HL.out.trans (hl.mono HL.out.size))
                  clear hl
                  go_wp2_with fail
                  refine (HI.out.all).mono ?_
                  rintro e w11 ⟨A2, c2, rfl, hn2, hl⟩
                  replace HI := Lib.hid (HI.out.low hl)
                  replace HOP := Lib.hid (HOP.out.below (hl.mono HL.out.size))
                  replace HL := Lib.hid (HL.out.trans (hl.mono HL.out.size))
                  clear hl
                  have HN2 := Lib.hid hn2
                  clear hn2
                  go_wp2_with fail
                  refine (rints_any A2 A9 0 c2 0 c9 [] [] w11 (by omega) HN2.out (HI.out.lies).1).mono ?_
                  rintro e w12 ⟨rfl, hl⟩
                  rw [show decide (([] : List Int) = []) = true by simp]
                  replace HI := Lib.hid (HI.out.low hl)
                  replace HOP := Lib.hid (HOP.out.below (hl.mono HL.out.size))
                  replace HL := Lib.hid (HL.out.trans (hl.mono HL.out.size))
                  clear hl
                  go_wp2_with fail
                  refine (HI.out.len).mono ?_
                  rintro e w13 ⟨rfl, hl⟩
                  rw [show ((([] : List Int).length : Nat) : Int) = 0 from rfl]
                  replace HI := Lib.hid (HI.out.low hl)
                  replace HOP := Lib.hid (HOP.out.below (hl.mono HL.out.size))
                  replace HL := Lib.hid (HL.out.trans (hl.mono HL.out.size))
                  clear hl
                  clear HN2
                  go_wp2_with fail
                  go_loop [15, 16] (fun v15 v16 => v16 = .int .i64 0 ∧ v15 = .bool false) (fun _ _ => 0)
                  case atStart => exact ⟨rfl, rfl⟩
                  case round =>
                    obtain ⟨rfl, rfl⟩ := hrel
                    go_wp2_with fail
                    refine (HI.out.has HX.out).mono ?_
                    rintro e w14 ⟨rfl, hl⟩
                    rw [show ([] : List Int).contains x = false by simp]
                    replace HI := Lib.hid (HI.out.low hl)
                    replace HOP := Lib.hid (HOP.out.below (hl.mono HL.out.size))
                    replace HL := Lib.hid (HL.out.trans (hl.mono HL.out.size))
                    clear hl
                    go_wp2_with fail
                    go_roundw
                    case rel => exact ⟨i + 1, A9, c9, [], by omega, by omega, by go_num, rfl, HI, HOP, HL⟩
                    case measure => simp [intOf]; omega
                · obtain ⟨j, hj⟩ : ∃ j, j = s.length - 1 := ⟨_, rfl⟩
                  have hjl : j < s.length := by omega
                  have hj1 : (s.length : Int) - 1 = j := by omega
                  have hj2 : (j : Int) < s.length := by omega
                  have hd0 : decide (0 < s.length) = true := decide_eq_true (by omega)
                  have hs1 : (0 : Int) < s.length := by omega
                  have hs2 : 0 < s.length := by omega
                  go_wp2_with fail
                  refine (HI.out.oldest).mono ?_
                  rintro e w10 ⟨rfl, hl⟩
                  obtain ⟨y, hy⟩ : ∃ y, y = s.getD j 0 := ⟨_, rfl⟩
                  rw [← hj, hd0, ← hy]
                  replace hj := Lib.hid hj
                  replace hy := Lib.hid hy
                  replace HI := Lib.hid (HI.out.low hl)
                  replace HOP := Lib.hid (HOP.out.below (hl.mono HL.out.size))
                  replace HL := Lib.hid (HL.out.trans (hl.mono HL.out.size))
                  clear hl
                  clear hd0
                  go_wp2_with fail
                  refine (HI.out.all).mono ?_
                  rintro e w11 ⟨A2, c2, rfl, hn2, hl⟩
                  replace HI := Lib.hid (HI.out.low hl)
                  replace HOP := Lib.hid (HOP.out.below (hl.mono HL.out.size))
                  replace HL := Lib.hid (HL.out.trans (hl.mono HL.out.size))
                  clear hl
                  have HN2 := Lib.hid hn2
                  clear hn2
                  go_wp2_with fail
                  refine (rints_any A2 A9 s.length c2 s.length c9 s s w11 (by omega) HN2.out (HI.out.lies).1).mono ?_
                  rintro e w12 ⟨rfl, hl⟩
                  rw [show decide (s = s) = true by simp]
                  replace HI := Lib.hid (HI.out.low hl)
                  replace HOP := Lib.hid (HOP.out.below (hl.mono HL.out.size))
                  replace HL := Lib.hid (HL.out.trans (hl.mono HL.out.size))
                  clear hl
                  go_wp2_with fail
                  refine (HI.out.len).mono ?_
                  rintro e w13 ⟨rfl, hl⟩
                  replace HI := Lib.hid (HI.out.low hl)
                  replace HOP := Lib.hid (HOP.out.below (hl.mono HL.out.size))
                  replace HL := Lib.hid (HL.out.trans (hl.mono HL.out.size))
                  clear hl
                  clear HN2
                  obtain ⟨gb, go, rfl, _, hcc⟩ := (HI.out.lies).1.at_ hjl
                  have d0 := hcc j hjl
                  rw [← hy.out] at d0
                  clear hcc hy
                  have hyy : (y != y) = false := by simp
                  go_wp2_with fail
                  clear d0 hyy hj1 hj2 hs1 hs2 hs0 hss
                  go_loop [15, 16] (fun v15 v16 => ∃ (t : Nat) (q : Bool), t ≤ s.length ∧ v16 = .int .i64 t ∧ v15 = .bool q ∧ Hid (q = (s.take t).contains x)) (fun _ v16 => s.length - (intOf v16).toNat)
                  case atStart => exact ⟨0, false, Nat.zero_le _, rfl, rfl, Lib.hid (by simp)⟩
                  case round =>
                    obtain ⟨t, q, ht, rfl, rfl, HQ⟩ := hrel
                    by_cases htl : t < s.length
                    · have htl2 : (t : Int) < s.length := by omega
                      obtain ⟨gb2, go2, hgo, _, hcc⟩ := (HI.out.lies).1.at_ htl
                      injection hgo with hgo
                      injection hgo with hg1 hg2 _
                      subst hg1 hg2
                      have d0 := hcc t htl
                      have HCT := Lib.hid (contains_takeR s t x htl)
                      rw [← HQ.out] at HCT
                      clear hcc HQ
                      generalize s.getD t 0 = y at *
                      cases q with
                      | true =>
                        have HR := Lib.hid (show true = (s.take (t + 1)).contains x by rw [HCT.out]; rfl)
                        go_wp2_with fail
                        go_round
                        case rel => exact ⟨t + 1, true, by omega, by go_num, rfl, HR⟩
                        case measure => simp [intOf]; omega
                      | false =>
                        by_cases hyx : y = x
                        · have HR := Lib.hid (show true = (s.take (t + 1)).contains x by rw [HCT.out, hyx]; simp)
                          subst hyx
                          go_wp2_with fail
                          go_round
                          case rel => exact ⟨t + 1, true, by omega, by go_num, rfl, HR⟩
                          case measure => simp [intOf]; omega
                        · have hx2 : (y == x) = false := by simpa using hyx
                          have HR := Lib.hid (show false = (s.take (t + 1)).contains x by rw [HCT.out, hx2]; rfl)
                          replace hyx := Lib.hid hyx
                          go_wp2_with fail
                          go_round
                          case rel => exact ⟨t + 1, false, by omega, by go_num, rfl, HR⟩
                          case measure => simp [intOf]; omega
                    · obtain rfl : t = s.length := by omega
                      rw [List.take_of_length_le (Nat.le_refl _)] at HQ
                      have htl2 : ¬ (s.length : Int) < s.length := by omega
                      have hqq : (q != q) = false := by simp
                      go_wp2_with fail
                      refine (HI.out.has HX.out).mono ?_
                      rintro e w14 ⟨rfl, hl⟩
                      rw [← HQ.out]
                      replace HI := Lib.hid (HI.out.low hl)
                      replace HOP := Lib.hid (HOP.out.below (hl.mono HL.out.size))
                      replace HL := Lib.hid (HL.out.trans (hl.mono HL.out.size))
                      clear hl
                      go_wp2_with fail
                      go_roundw
                      case rel => exact ⟨i + 1, some ⟨gb, go, none⟩, c9, s, by omega, by omega, by go_num, rfl, HI, HOP, HL⟩
                      case measure => simp [intOf]; omega
              · go_wp2_with fail
                refine (HI.out.touch HL.out.size HX.out).mono ?_
                rintro e w8 ⟨rfl, hi8, hb8⟩
                rw [HMY.out]
                replace HOP := Lib.hid (HOP.out.below hb8)
                replace HL := Lib.hid (HL.out.trans hb8)
                rw [HTO.out] at hi8
                have HI8 := Lib.hid hi8
                clear hi8 hb8 HI
                go_wp2_with fail
                refine (rtouchR_any A' l.length c' l x w8 (by omega) HX.out (HI8.out.lies).1).mono ?_
                rintro e w9 ⟨A9, c9, rfl, hc9, ho9, hl9⟩
                have HI := Lib.hid (HI8.out.take hc9 ho9 hl9)
                replace HOP := Lib.hid (HOP.out.below (hl9.mono HL.out.size))
                replace HL := Lib.hid (HL.out.trans (hl9.mono HL.out.size))
                clear hc9 ho9 hl9 HI8 HTO
                generalize touchR l x = s at *

                have hsl := HI.out.right.2
                have hss : ((s.length : Int) != (s.length : Int)) = false := by simp
                by_cases hs0 : s.length = 0
                · obtain rfl : s = [] := List.eq_nil_of_length_eq_zero hs0
                  clear hs0 hsl
                  go_wp2_with fail
                  refine (HI.out.oldest).mono ?_
                  rintro e w10 ⟨rfl, hl⟩
                  replace HI := Lib.hid (HI.out.low hl)
                  replace HOP := Lib.hid (HOP.out.below (hl.mono HL.out.size))
                  replace HL := Lib.hid (HL.out.trans (hl.mono HL.out.size))
                  clear hl
                  go_wp2_with fail
                  refine (HI.out.all).mono ?_
                  rintro e w11 ⟨A2, c2, rfl, hn2, hl⟩
                  replace HI := Lib.hid (HI.out.low hl)
                  replace HOP := Lib.hid (HOP.out.below (hl.mono HL.out.size))
                  replace HL := Lib.hid (HL.out.trans (hl.mono HL.out.size))
                  clear hl
                  have HN2 := Lib.hid hn2
                  clear hn2
                  go_wp2_with fail
                  refine (rints_any A2 A9 0 c2 0 c9 [] [] w11 (by omega) HN2.out (HI.out.lies).1).mono ?_
                  rintro e w12 ⟨rfl, hl⟩
                  rw [show decide (([] : List Int) = []) = true by simp]
                  replace HI := Lib.hid (HI.out.low hl)
                  replace HOP := Lib.hid (HOP.out.below (hl.mono HL.out.size))
                  replace HL := Lib.hid (HL.out.trans (hl.mono HL.out.size))
                  clear hl
                  go_wp2_with fail
                  refine (HI.out.len).mono ?_
                  rintro e w13 ⟨rfl, hl⟩
                  rw [show ((([] : List Int).length : Nat) : Int) = 0 from rfl]
                  replace HI := Lib.hid (HI.out.low hl)
                  replace HOP := Lib.hid (HOP.out.below (hl.mono HL.out.size))
                  replace HL := Lib.hid (HL.out.trans (hl.mono HL.out.size))
                  clear hl
                  clear HN2
                  go_wp2_with fail
                  go_loop [15, 16] (fun v15 v16 => v16 = .int .i64 0 ∧ v15 = .bool false) (fun _ _ => 0)
                  case atStart => exact ⟨rfl, rfl⟩
                  case round =>
                    obtain ⟨rfl, rfl⟩ := hrel
                    go_wp2_with fail
                    refine (HI.out.has HX.out).mono ?_
                    rintro e w14 ⟨rfl, hl⟩
                    rw [show ([] : List Int).contains x = false by simp]
                    replace HI := Lib.hid (HI.out.low hl)
                    replace HOP := Lib.hid (HOP.out.below (hl.mono HL.out.size))
                    replace HL := Lib.hid (HL.out.trans (hl.mono HL.out.size))
                    clear hl
                    go_wp2_with fail
                    go_roundw
                    case rel => exact ⟨i + 1, A9, c9, [], by omega, by omega, by go_num, rfl, HI, HOP, HL⟩
                    case measure => simp [intOf]; omega
                · obtain ⟨j, hj⟩ : ∃ j, j = s.length - 1 := ⟨_, rfl⟩
                  have hjl : j < s.length := by omega
                  have hj1 : (s.length : Int) - 1 = j := by omega
                  have hj2 : (j : Int) < s.length := by omega
                  have hd0 : decide (0 < s.length) = true := decide_eq_true (by omega)
                  have hs1 : (0 : Int) < s.length := by omega
                  have hs2 : 0 < s.length := by omega
                  go_wp2_with fail
                  refine (HI.out.oldest).mono ?_
                  rintro e w10 ⟨rfl, hl⟩
                  obtain ⟨y, hy⟩ : ∃ y, y = s.getD j 0 := ⟨_, rfl⟩
                  rw [← hj, hd0, ← hy]
                  replace hj := Lib.hid hj
                  replace hy := Lib.hid hy
                  replace HI := Lib.hid (HI.out.low hl)
                  replace HOP := Lib.hid (HOP.out.below (hl.mono HL.out.size))
                  replace HL := Lib.hid (HL.out.trans (hl.mono HL.out.size))
                  clear hl
                  clear hd0
                  go_wp2_with fail
                  refine (HI.out.all).mono ?_
                  rintro e w11 ⟨A2, c2, rfl, hn2, hl⟩
                  replace HI := Lib.hid (HI.out.low hl)
                  replace HOP := Lib.hid (HOP.out.below (hl.mono HL.out.size))
                  replace HL := Lib.hid (HL.out.trans (hl.mono HL.out.size))
                  clear hl
                  have HN2 := Lib.hid hn2
                  clear hn2
                  go_wp2_with fail
                  refine (rints_any A2 A9 s.length c2 s.length c9 s s w11 (by omega) HN2.out (HI.out.lies).1).mono ?_
                  rintro e w12 ⟨rfl, hl⟩
                  rw [show decide (s = s) = true by simp]
                  replace HI := Lib.hid (HI.out.low hl)
                  replace HOP := Lib.hid (HOP.out.below (hl.mono HL.out.size))
                  replace HL := Lib.hid (HL.out.trans (hl.mono HL.out.size))
                  clear hl
                  go_wp2_with fail
                  refine (HI.out.len).mono ?_
                  rintro e w13 ⟨rfl, hl⟩
                  replace HI := Lib.hid (HI.out.low hl)
                  replace HOP := Lib.hid (HOP.out.below (hl.mono HL.out.size))
                  replace HL := Lib.hid (HL.out.trans (hl.mono HL.out.size))
                  clear hl
                  clear HN2
                  obtain ⟨gb, go, rfl, _, hcc⟩ := (HI.out.lies).1.at_ hjl
                  have d0 := hcc j hjl
                  rw [← hy.out] at d0
                  clear hcc hy
                  have hyy : (y != y) = false := by simp
                  go_wp2_with fail
                  clear d0 hyy hj1 hj2 hs1 hs2 hs0 hss
                  go_loop [15, 16] (fun v15 v16 => ∃ (t : Nat) (q : Bool), t ≤ s.length ∧ v16 = .int .i64 t ∧ v15 = .bool q ∧ Hid (q = (s.take t).contains x)) (fun _ v16 => s.length - (intOf v16).toNat)
                  case atStart => exact ⟨0, false, Nat.zero_le _, rfl, rfl, Lib.hid (by simp)⟩
                  case round =>
                    obtain ⟨t, q, ht, rfl, rfl, HQ⟩ := hrel
                    by_cases htl : t < s.length
                    · have htl2 : (t : Int) < s.length := by omega
                      obtain ⟨gb2, go2, hgo, _, hcc⟩ := (HI.out.lies).1.at_ htl
                      injection hgo with hgo
                      injection hgo with hg1 hg2 _
                      subst hg1 hg2
                      have d0 := hcc t htl
                      have HCT := Lib.hid (contains_takeR s t x htl)
                      rw [← HQ.out] at HCT
                      clear hcc HQ
                      generalize s.getD t 0 = y at *
                      cases q with
                      | true =>
                        have HR := Lib.hid (show true = (s.take (t + 1)).contains x by rw [HCT.out]; rfl)
                        go_wp2_with fail
                        go_round
                        case rel => exact ⟨t + 1, true, by omega, by go_num, rfl, HR⟩
                        case measure => simp [intOf]; omega
                      | false =>
                        by_cases hyx : y = x
                        · have HR := Lib.hid (show true = (s.take (t + 1)).contains x by rw [HCT.out, hyx]; simp)
                          subst hyx
                          go_wp2_with fail
                          go_round
                          case rel => exact ⟨t + 1, true, by omega, by go_num, rfl, HR⟩
                          case measure => simp [intOf]; omega
                        · have hx2 : (y == x) = false := by simpa using hyx
                          have HR := Lib.hid (show false = (s.take (t + 1)).contains x by rw [HCT.out, hx2]; rfl)
                          replace hyx := Lib.hid hyx
                          go_wp2_with fail
                          go_round
                          case rel => exact ⟨t + 1, false, by omega, by go_num, rfl, HR⟩
                          case measure => simp [intOf]; omega
                    · obtain rfl : t = s.length := by omega
                      rw [List.take_of_length_le (Nat.le_refl _)] at HQ
                      have htl2 : ¬ (s.length : Int) < s.length := by omega
                      have hqq : (q != q) = false := by simp
                      go_wp2_with fail
                      refine (HI.out.has HX.out).mono ?_
                      rintro e w14 ⟨rfl, hl⟩
                      rw [← HQ.out]
                      replace HI := Lib.hid (HI.out.low hl)
                      replace HOP := Lib.hid (HOP.out.below (hl.mono HL.out.size))
                      replace HL := Lib.hid (HL.out.trans (hl.mono HL.out.size))
                      clear hl
                      go_wp2_with fail
                      go_roundw
                      case rel => exact ⟨i + 1, some ⟨gb, go, none⟩, c9, s, by omega, by omega, by go_num, rfl, HI, HOP, HL⟩
                      case measure => simp [intOf]; omega
            · have HMY := Lib.hid (show mayR n x = false by unfold mayR; rw [decide_eq_true hx0, decide_eq_false hxn]; rfl)
              have HTO := Lib.hid (show toR n l x = l by unfold toR; rw [HMY.out, if_neg (by simp)])
              rcases hk with hk | hk
              · go_wp2_with fail
                refine (HI.out.touch HL.out.size HX.out).mono ?_
                rintro e w8 ⟨rfl, hi8, hb8⟩
                rw [HMY.out]
                replace HOP := Lib.hid (HOP.out.below hb8)
                replace HL := Lib.hid (HL.out.trans hb8)
                rw [HTO.out] at hi8
                replace HI := Lib.hid hi8
                clear hi8 hb8 HTO
                obtain ⟨s, hs⟩ : ∃ s, s = l := ⟨_, rfl⟩
                obtain ⟨A9, hA9⟩ : ∃ A9, A9 = A' := ⟨_, rfl⟩
                obtain ⟨c9, hc9⟩ : ∃ c9, c9 = c' := ⟨_, rfl⟩
                rw [← hs, ← hA9, ← hc9] at HI
                rw [← hs, ← hA9, ← hc9]
                clear hs hA9 hc9

                have hsl := HI.out.right.2
                have hss : ((s.length : Int) != (s.length : Int)) = false := by simp
                by_cases hs0 : s.length = 0
                · obtain rfl : s = [] := List.eq_nil_of_length_eq_zero hs0
                  clear hs0 hsl
                  go_wp2_with fail
                  refine (HI.out.oldest).mono ?_
                  rintro e w10 ⟨rfl, hl⟩
                  replace HI := Lib.hid (HI.out.low hl)
                  replace HOP := Lib.hid (HOP.out.below (hl.mono HL.out.size))
                  replace HL := Lib.hid (HL.out.trans (hl.mono HL.out.size))
                  clear hl
                  go_wp2_with fail
                  refine (HI.out.all).mono ?_
                  rintro e w11 ⟨A2, c2, rfl, hn2, hl⟩
                  replace HI := Lib.hid (HI.out.low hl)
                  replace HOP := Lib.hid (HOP.out.below (hl.mono HL.out.size))
                  replace HL := Lib.hid (HL.out.trans (hl.mono HL.out.size))
                  clear hl
                  have HN2 := Lib.hid hn2
                  clear hn2
                  go_wp2_with fail
                  refine (rints_any A2 A9 0 c2 0 c9 [] [] w11 (by omega) HN2.out (HI.out.lies).1).mono ?_
                  rintro e w12 ⟨rfl, hl⟩
                  rw [show decide (([] : List Int) = []) = true by simp]
                  replace HI := Lib.hid (HI.out.low hl)
                  replace HOP := Lib.hid (HOP.out.below (hl.mono HL.out.size))
                  replace HL := Lib.hid (HL.out.trans (hl.mono HL.out.size))
                  clear hl
                  go_wp2_with fail
                  refine (HI.out.len).mono ?_
                  rintro e w13 ⟨rfl, hl⟩
                  rw [show ((([] : List Int).length : Nat) : Int) = 0 from rfl]
                  replace HI := Lib.hid (HI.out.low hl)
                  replace HOP := Lib.hid (HOP.out.below (hl.mono HL.out.size))
                  replace HL := Lib.hid (HL.out.trans (hl.mono HL.out.size))
                  clear hl
                  clear HN2
                  go_wp2_with fail
                  go_loop [15, 16] (fun v15 v16 => v16 = .int .i64 0 ∧ v15 = .bool false) (fun _ _ => 0)
                  case atStart => exact ⟨rfl, rfl⟩
                  case round =>
                    obtain ⟨rfl, rfl⟩ := hrel
                    go_wp2_with fail
                    refine (HI.out.has HX.out).mono ?_
                    rintro e w14 ⟨rfl, hl⟩
                    rw [show ([] : List Int).contains x = false by simp]
                    replace HI := Lib.hid (HI.out.low hl)
                    replace HOP := Lib.hid (HOP.out.below (hl.mono HL.out.size))
                    replace HL := Lib.hid (HL.out.trans (hl.mono HL.out.size))
                    clear hl
                    go_wp2_with fail
                    go_roundw
                    case rel => exact ⟨i + 1, A9, c9, [], by omega, by omega, by go_num, rfl, HI, HOP, HL⟩
                    case measure => simp [intOf]; omega
                · obtain ⟨j, hj⟩ : ∃ j, j = s.length - 1 := ⟨_, rfl⟩
                  have hjl : j < s.length := by omega
                  have hj1 : (s.length : Int) - 1 = j := by omega
                  have hj2 : (j : Int) < s.length := by omega
                  have hd0 : decide (0 < s.length) = true := decide_eq_true (by omega)
                  have hs1 : (0 : Int) < s.length := by omega
                  have hs2 : 0 < s.length := by omega
                  go_wp2_with fail
                  refine (HI.out.oldest).mono ?_
                  rintro e w10 ⟨rfl, hl⟩
                  obtain ⟨y, hy⟩ : ∃ y, y = s.getD j 0 := ⟨_, rfl⟩
                  rw [← hj, hd0, ← hy]
                  replace hj := Lib.hid hj
                  replace hy := Lib.hid hy
                  replace HI := Lib.hid (HI.out.low hl)
                  replace HOP := Lib.hid (HOP.out.below (hl.mono HL.out.size))
                  replace HL := Lib.hid (HL.out.trans (hl.mono HL.out.size))
                  clear hl
                  clear hd0
                  go_wp2_with fail
                  refine (HI.out.all).mono ?_
                  rintro e w11 ⟨A2, c2, rfl, hn2, hl⟩
                  replace HI := Lib.hid (HI.out.low hl)
                  replace HOP := Lib.hid (HOP.out.below (hl.mono HL.out.size))
                  replace HL := Lib.hid (HL.out.trans (hl.mono HL.out.size))
                  clear hl
                  have HN2 := Lib.hid hn2
                  clear hn2
                  go_wp2_with fail
                  refine (rints_any A2 A9 s.length c2 s.length c9 s s w11 (by omega) HN2.out (HI.out.lies).1).mono ?_
                  rintro e w12 ⟨rfl, hl⟩
                  rw [show decide (s = s) = true by simp]
                  replace HI := Lib.hid (HI.out.low hl)
                  replace HOP := Lib.hid (HOP.out.below (hl.mono HL.out.size))
                  replace HL := Lib.hid (HL.out.trans (hl.mono HL.out.size))
                  clear hl
                  go_wp2_with fail
                  refine (HI.out.len).mono ?_
                  rintro e w13 ⟨rfl, hl⟩
                  replace HI := Lib.hid (HI.out.low hl)
                  replace HOP := Lib.hid (HOP.out.below (hl.mono HL.out.size))
                  replace HL := Lib.hid (HL.out.trans (hl.mono HL.out.size))
                  clear hl
                  clear HN2
                  obtain ⟨gb, go, rfl, _, hcc⟩ := (HI.out.lies).1.at_ hjl
                  have d0 := hcc j hjl
                  rw [← hy.out] at d0
                  clear hcc hy
                  have hyy : (y != y) = false := by simp
                  go_wp2_with fail
                  clear d0 hyy hj1 hj2 hs1 hs2 hs0 hss
                  go_loop [15, 16] (fun v15 v16 => ∃ (t : Nat) (q : Bool), t ≤ s.length ∧ v16 = .int .i64 t ∧ v15 = .bool q ∧ Hid (q = (s.take t).contains x)) (fun _ v16 => s.length - (intOf v16).toNat)
                  case atStart => exact ⟨0, false, Nat.zero_le _, rfl, rfl, Lib.hid (by simp)⟩
                  case round =>
                    obtain ⟨t, q, ht, rfl, rfl, HQ⟩ := hrel
                    by_cases htl : t < s.length
                    · have htl2 : (t : Int) < s.length := by omega
                      obtain ⟨gb2, go2, hgo, _, hcc⟩ := (HI.out.lies).1.at_ htl
                      injection hgo with hgo
                      injection hgo with hg1 hg2 _
                      subst hg1 hg2
                      have d0 := hcc t htl
                      have HCT := Lib.hid (contains_takeR s t x htl)
                      rw [← HQ.out] at HCT
                      clear hcc HQ
                      generalize s.getD t 0 = y at *
                      cases q with
                      | true =>
                        have HR := Lib.hid (show true = (s.take (t + 1)).contains x by rw [HCT.out]; rfl)
                        go_wp2_with fail
                        go_round
                        case rel => exact ⟨t + 1, true, by omega, by go_num, rfl, HR⟩
                        case measure => simp [intOf]; omega
                      | false =>
                        by_cases hyx : y = x
                        · have HR := Lib.hid (show true = (s.take (t + 1)).contains x by rw [HCT.out, hyx]; simp)
                          subst hyx
                          go_wp2_with fail
                          go_round
                          case rel => exact ⟨t + 1, true, by omega, by go_num, rfl, HR⟩
                          case measure => simp [intOf]; omega
                        · have hx2 : (y == x) = false := by simpa using hyx
                          have HR := Lib.hid (show false = (s.take (t + 1)).contains x by rw [HCT.out, hx2]; rfl)
                          replace hyx := Lib.hid hyx
                          go_wp2_with fail
                          go_round
                          case rel => exact ⟨t + 1, false, by omega, by go_num, rfl, HR⟩
                          case measure => simp [intOf]; omega
                    · obtain rfl : t = s.length := by omega
                      rw [List.take_of_length_le (Nat.le_refl _)] at HQ
                      have htl2 : ¬ (s.length : Int) < s.length := by omega
                      have hqq : (q != q) = false := by simp
                      go_wp2_with fail
                      refine (HI.out.has HX.out).mono ?_
                      rintro e w14 ⟨rfl, hl⟩
                      rw [← HQ.out]
                      replace HI := Lib.hid (HI.out.low hl)
                      replace HOP := Lib.hid (HOP.out.below (hl.mono HL.out.size))
                      replace HL := Lib.hid (HL.out.trans (hl.mono HL.out.size))
                      clear hl
                      go_wp2_with fail
                      go_roundw
                      case rel => exact ⟨i + 1, some ⟨gb, go, none⟩, c9, s, by omega, by omega, by go_num, rfl, HI, HOP, HL⟩
                      case measure => simp [intOf]; omega
              · go_wp2_with fail
                refine (HI.out.touch HL.out.size HX.out).mono ?_
                rintro e w8 ⟨rfl, hi8, hb8⟩
                rw [HMY.out]
                replace HOP := Lib.hid (HOP.out.below hb8)
                replace HL := Lib.hid (HL.out.trans hb8)
                rw [HTO.out] at hi8
                replace HI := Lib.hid hi8
                clear hi8 hb8 HTO
                obtain ⟨s, hs⟩ : ∃ s, s = l := ⟨_, rfl⟩
                obtain ⟨A9, hA9⟩ : ∃ A9, A9 = A' := ⟨_, rfl⟩
                obtain ⟨c9, hc9⟩ : ∃ c9, c9 = c' := ⟨_, rfl⟩
                rw [← hs, ← hA9, ← hc9] at HI
                rw [← hs, ← hA9, ← hc9]
                clear hs hA9 hc9

                have hsl := HI.out.right.2
                have hss : ((s.length : Int) != (s.length : Int)) = false := by simp
                by_cases hs0 : s.length = 0
                · obtain rfl : s = [] := List.eq_nil_of_length_eq_zero hs0
                  clear hs0 hsl
                  go_wp2_with fail
                  refine (HI.out.oldest).mono ?_
                  rintro e w10 ⟨rfl, hl⟩
                  replace HI := Lib.hid (HI.out.low hl)
                  replace HOP := Lib.hid (HOP.out.below (hl.mono HL.out.size))
                  replace HL := Lib.hid (HL.out.trans (hl.mono HL.out.size))
                  clear hl
                  go_wp2_with fail
                  refine (HI.out.all).mono ?_
                  rintro e w11 ⟨A2, c2, rfl, hn2, hl⟩
                  replace HI := Lib.hid (HI.out.low hl)
                  replace HOP := Lib.hid (HOP.out.below (hl.mono HL.out.size))
                  replace HL := Lib.hid (HL.out.trans (hl.mono HL.out.size))
                  clear hl
                  have HN2 := Lib.hid hn2
                  clear hn2
                  go_wp2_with fail
                  refine (rints_any A2 A9 0 c2 0 c9 [] [] w11 (by omega) HN2.out (HI.out.lies).1).mono ?_
                  rintro e w12 ⟨rfl, hl⟩
                  rw [show decide (([] : List Int) = []) = true by simp]
                  replace HI := Lib.hid (HI.out.low hl)
                  replace HOP := Lib.hid (HOP.out.below (hl.mono HL.out.size))
                  replace HL := Lib.hid (HL.out.trans (hl.mono HL.out.size))
                  clear hl
                  go_wp2_with fail
                  refine (HI.out.len).mono ?_
                  rintro e w13 ⟨rfl, hl⟩
                  rw [show ((([] : List Int).length : Nat) : Int) = 0 from rfl]
                  replace HI := Lib.hid (HI.out.low hl)
                  replace HOP := Lib.hid (HOP.out.below (hl.mono HL.out.size))
                  replace HL := Lib.hid (HL.out.trans (hl.mono HL.out.size))
                  clear hl
                  clear HN2
                  go_wp2_with fail
                  go_loop [15, 16] (fun v15 v16 => v16 = .int .i64 0 ∧ v15 = .bool false) (fun _ _ => 0)
                  case atStart => exact ⟨rfl, rfl⟩
                  case round =>
                    obtain ⟨rfl, rfl⟩ := hrel
                    go_wp2_with fail
                    refine (HI.out.has HX.out).mono ?_
                    rintro e w14 ⟨rfl, hl⟩
                    rw [show ([] : List Int).contains x = false by simp]
                    replace HI := Lib.hid (HI.out.low hl)
                    replace HOP := Lib.hid (HOP.out.below (hl.mono HL.out.size))
                    replace HL := Lib.hid (HL.out.trans (hl.mono HL.out.size))
                    clear hl
                    go_wp2_with fail
                    go_roundw
                    case rel => exact ⟨i + 1, A9, c9, [], by omega, by omega, by go_num, rfl, HI, HOP, HL⟩
                    case measure => simp [intOf]; omega
                · obtain ⟨j, hj⟩ : ∃ j, j = s.length - 1 := ⟨_, rfl⟩
                  have hjl : j < s.length := by omega
                  have hj1 : (s.length : Int) - 1 = j := by omega
                  have hj2 : (j : Int) < s.length := by omega
                  have hd0 : decide (0 < s.length) = true := decide_eq_true (by omega)
                  have hs1 : (0 : Int) < s.length := by omega
                  have hs2 : 0 < s.length := by omega
                  go_wp2_with fail
                  refine (HI.out.oldest).mono ?_
                  rintro e w10 ⟨rfl, hl⟩
                  obtain ⟨y, hy⟩ : ∃ y, y = s.getD j 0 := ⟨_, rfl⟩
                  rw [← hj, hd0, ← hy]
                  replace hj := Lib.hid hj
                  replace hy := Lib.hid hy
                  replace HI := Lib.hid (HI.out.low hl)
                  replace HOP := Lib.hid (HOP.out.below (hl.mono HL.out.size))
                  replace HL := Lib.hid (HL.out.trans (hl.mono HL.out.size))
                  clear hl
                  clear hd0
                  go_wp2_with fail
                  refine (HI.out.all).mono ?_
                  rintro e w11 ⟨A2, c2, rfl, hn2, hl⟩
                  replace HI := Lib.hid (HI.out.low hl)
                  replace HOP := Lib.hid (HOP.out.below (hl.mono HL.out.size))
                  replace HL := Lib.hid (HL.out.trans (hl.mono HL.out.size))
                  clear hl
                  have HN2 := Lib.hid hn2
                  clear hn2
                  go_wp2_with fail
                  refine (rints_any A2 A9 s.length c2 s.length c9 s s w11 (by omega) HN2.out (HI.out.lies).1).mono ?_
                  rintro e w12 ⟨rfl, hl⟩
                  rw [show decide (s = s) = true by simp]
                  replace HI := Lib.hid (HI.out.low hl)
                  replace HOP := Lib.hid (HOP.out.below (hl.mono HL.out.size))
                  replace HL := Lib.hid (HL.out.trans (hl.mono HL.out.size))
                  clear hl
                  go_wp2_with fail
                  refine (HI.out.len).mono ?_
                  rintro e w13 ⟨rfl, hl⟩
                  replace HI := Lib.hid (HI.out.low hl)
                  replace HOP := Lib.hid (HOP.out.below (hl.mono HL.out.size))
                  replace HL := Lib.hid (HL.out.trans (hl.mono HL.out.size))
                  clear hl
                  clear HN2
                  obtain ⟨gb, go, rfl, _, hcc⟩ := (HI.out.lies).1.at_ hjl
                  have d0 := hcc j hjl
                  rw [← hy.out] at d0
                  clear hcc hy
                  have hyy : (y != y) = false := by simp
                  go_wp2_with fail
                  clear d0 hyy hj1 hj2 hs1 hs2 hs0 hss
                  go_loop [15, 16] (fun v15 v16 => ∃ (t : Nat) (q : Bool), t ≤ s.length ∧ v16 = .int .i64 t ∧ v15 = .bool q ∧ Hid (q = (s.take t).contains x)) (fun _ v16 => s.length - (intOf v16).toNat)
                  case atStart => exact ⟨0, false, Nat.zero_le _, rfl, rfl, Lib.hid (by simp)⟩
                  case round =>
                    obtain ⟨t, q, ht, rfl, rfl, HQ⟩ := hrel
                    by_cases htl : t < s.length
                    · have htl2 : (t : Int) < s.length := by omega
                      obtain ⟨gb2, go2, hgo, _, hcc⟩ := (HI.out.lies).1.at_ htl
                      injection hgo with hgo
                      injection hgo with hg1 hg2 _
                      subst hg1 hg2
                      have d0 := hcc t htl
                      have HCT := Lib.hid (contains_takeR s t x htl)
                      rw [← HQ.out] at HCT
                      clear hcc HQ
                      generalize s.getD t 0 = y at *
                      cases q with
                      | true =>
                        have HR := Lib.hid (show true = (s.take (t + 1)).contains x by rw [HCT.out]; rfl)
                        go_wp2_with fail
                        go_round
                        case rel => exact ⟨t + 1, true, by omega, by go_num, rfl, HR⟩
                        case measure => simp [intOf]; omega
                      | false =>
                        by_cases hyx : y = x
                        · have HR := Lib.hid (show true = (s.take (t + 1)).contains x by rw [HCT.out, hyx]; simp)
                          subst hyx
                          go_wp2_with fail
                          go_round
                          case rel => exact ⟨t + 1, true, by omega, by go_num, rfl, HR⟩
                          case measure => simp [intOf]; omega
                        · have hx2 : (y == x) = false := by simpa using hyx
                          have HR := Lib.hid (show false = (s.take (t + 1)).contains x by rw [HCT.out, hx2]; rfl)
                          replace hyx := Lib.hid hyx
                          go_wp2_with fail
                          go_round
                          case rel => exact ⟨t + 1, false, by omega, by go_num, rfl, HR⟩
                          case measure => simp [intOf]; omega
                    · obtain rfl : t = s.length := by omega
                      rw [List.take_of_length_le (Nat.le_refl _)] at HQ
                      have htl2 : ¬ (s.length : Int) < s.length := by omega
                      have hqq : (q != q) = false := by simp
                      go_wp2_with fail
                      refine (HI.out.has HX.out).mono ?_
                      rintro e w14 ⟨rfl, hl⟩
                      rw [← HQ.out]
                      replace HI := Lib.hid (HI.out.low hl)
                      replace HOP := Lib.hid (HOP.out.below (hl.mono HL.out.size))
                      replace HL := Lib.hid (HL.out.trans (hl.mono HL.out.size))
                      clear hl
                      go_wp2_with fail
                      go_roundw
                      case rel => exact ⟨i + 1, some ⟨gb, go, none⟩, c9, s, by omega, by omega, by go_num, rfl, HI, HOP, HL⟩
                      case measure => simp [intOf]; omega
          · have HMY := Lib.hid (show mayR n x = false by unfold mayR; rw [decide_eq_false hx0]; rfl)
            have HTO := Lib.hid (show toR n l x = l by unfold toR; rw [HMY.out, if_neg (by simp)])
            rcases hk with hk | hk
            · go_wp2_with fail
              refine (HI.out.touch HL.out.size HX.out).mono ?_
              rintro e w8 ⟨rfl, hi8, hb8⟩
              rw [HMY.out]
              replace HOP := Lib.hid (HOP.out.below hb8)
              replace HL := Lib.hid (HL.out.trans hb8)
              rw [HTO.out] at hi8
              replace HI := Lib.hid hi8
              clear hi8 hb8 HTO
              obtain ⟨s, hs⟩ : ∃ s, s = l := ⟨_, rfl⟩
              obtain ⟨A9, hA9⟩ : ∃ A9, A9 = A' := ⟨_, rfl⟩
              obtain ⟨c9, hc9⟩ : ∃ c9, c9 = c' := ⟨_, rfl⟩
              rw [← hs, ← hA9, ← hc9] at HI
              rw [← hs, ← hA9, ← hc9]
              clear hs hA9 hc9

              have hsl := HI.out.right.2
              have hss : ((s.length : Int) != (s.length : Int)) = false := by simp
              by_cases hs0 : s.length = 0
              · obtain rfl : s = [] := List.eq_nil_of_length_eq_zero hs0
                clear hs0 hsl
                go_wp2_with fail
                refine (HI.out.oldest).mono ?_
                rintro e w10 ⟨rfl, hl⟩
                replace HI := Lib.hid (HI.out.low hl)
                replace HOP := Lib.hid (HOP.out.below (hl.mono HL.out.size))
                replace HL := Lib.hid (HL.out.trans (hl.mono HL.out.size))
                clear hl
                go_wp2_with fail
                refine (HI.out.all).mono ?_
                rintro e w11 ⟨A2, c2, rfl, hn2, hl⟩
                replace HI := Lib.hid (HI.out.low hl)
                replace HOP := Lib.hid (HOP.out.below (hl.mono HL.out.size))
                replace HL := Lib.hid (HL.out.trans (hl.mono HL.out.size))
                clear hl
                have HN2 := Lib.hid hn2
                clear hn2
                go_wp2_with fail
                refine (rints_any A2 A9 0 c2 0 c9 [] [] w11 (by omega) HN2.out (HI.out.lies).1).mono ?_
                rintro e w12 ⟨rfl, hl⟩
                rw [show decide (([] : List Int) = []) = true by simp]
                replace HI := Lib.hid (HI.out.low hl)
                replace HOP := Lib.hid (HOP.out.below (hl.mono HL.out.size))
                replace HL := Lib.hid (HL.out.trans (hl.mono HL.out.size))
                clear hl
                go_wp2_with fail
                refine (HI.out.len).mono ?_
                rintro e w13 ⟨rfl, hl⟩
                rw [show ((([] : List Int).length : Nat) : Int) = 0 from rfl]
                replace HI := Lib.hid (HI.out.low hl)
                replace HOP := Lib.hid (HOP.out.below (hl.mono HL.out.size))
                replace HL := Lib.hid (HL.out.trans (hl.mono HL.out.size))
                clear hl
                clear HN2
                go_wp2_with fail
                go_loop [15, 16] (fun v15 v16 => v16 = .int .i64 0 ∧ v15 = .bool false) (fun _ _ => 0)
                case atStart => exact ⟨rfl, rfl⟩
                case round =>
                  obtain ⟨rfl, rfl⟩ := hrel
                  go_wp2_with fail
                  refine (HI.out.has HX.out).mono ?_
                  rintro e w14 ⟨rfl, hl⟩
                  rw [show ([] : List Int).contains x = false by simp]
                  replace HI := Lib.hid (HI.out.low hl)
                  replace HOP := Lib.hid (HOP.out.below (hl.mono HL.out.size))
                  replace HL := Lib.hid (HL.out.trans (hl.mono HL.out.size))
                  clear hl
                  go_wp2_with fail
                  go_roundw
                  case rel => exact ⟨i + 1, A9, c9, [], by omega, by omega, by go_num, rfl, HI, HOP, HL⟩
                  case measure => simp [intOf]; omega
              · obtain ⟨j, hj⟩ : ∃ j, j = s.length - 1 := ⟨_, rfl⟩
                have hjl : j < s.length := by omega
                have hj1 : (s.length : Int) - 1 = j := by omega
                have hj2 : (j : Int) < s.length := by omega
                have hd0 : decide (0 < s.length) = true := decide_eq_true (by omega)
                have hs1 : (0 : Int) < s.length := by omega
                have hs2 : 0 < s.length := by omega
                go_wp2_with fail
                refine (HI.out.oldest).mono ?_
                rintro e w10 ⟨rfl, hl⟩
                obtain ⟨y, hy⟩ : ∃ y, y = s.getD j 0 := ⟨_, rfl⟩
                rw [← hj, hd0, ← hy]
                replace hj := Lib.hid hj
                replace hy := Lib.hid hy
                replace HI := Lib.hid (HI.out.low hl)
                replace HOP := Lib.hid (HOP.out.below (hl.mono HL.out.size))
                replace HL := Lib.hid (HL.out.trans (hl.mono HL.out.size))
                clear hl
                clear hd0
                go_wp2_with fail
                refine (HI.out.all).mono ?_
                rintro e w11 ⟨A2, c2, rfl, hn2, hl⟩
                replace HI := Lib.hid (HI.out.low hl)
                replace HOP := Lib.hid (HOP.out.below (hl.mono HL.out.size))
                replace HL := Lib.hid (HL.out.trans (hl.mono HL.out.size))
                clear hl
                have HN2 := Lib.hid hn2
                clear hn2
                go_wp2_with fail
                refine (rints_any A2 A9 s.length c2 s.length c9 s s w11 (by omega) HN2.out (HI.out.lies).1).mono ?_
                rintro e w12 ⟨rfl, hl⟩
                rw [show decide (s = s) = true by simp]
                replace HI := Lib.hid (HI.out.low hl)
                replace HOP := Lib.hid (HOP.out.below (hl.mono HL.out.size))
                replace HL := Lib.hid (HL.out.trans (hl.mono HL.out.size))
                clear hl
                go_wp2_with fail
                refine (HI.out.len).mono ?_
                rintro e w13 ⟨rfl, hl⟩
                replace HI := Lib.hid (HI.out.low hl)
                replace HOP := Lib.hid (HOP.out.below (hl.mono HL.out.size))
                replace HL := Lib.hid (HL.out.trans (hl.mono HL.out.size))
                clear hl
                clear HN2
                obtain ⟨gb, go, rfl, _, hcc⟩ := (HI.out.lies).1.at_ hjl
                have d0 := hcc j hjl
                rw [← hy.out] at d0
                clear hcc hy
                have hyy : (y != y) = false := by simp
                go_wp2_with fail
                clear d0 hyy hj1 hj2 hs1 hs2 hs0 hss
                go_loop [15, 16] (fun v15 v16 => ∃ (t : Nat) (q : Bool), t ≤ s.length ∧ v16 = .int .i64 t ∧ v15 = .bool q ∧ Hid (q = (s.take t).contains x)) (fun _ v16 => s.length - (intOf v16).toNat)
                case atStart => exact ⟨0, false, Nat.zero_le _, rfl, rfl, Lib.hid (by simp)⟩
                case round =>
                  obtain ⟨t, q, ht, rfl, rfl, HQ⟩ := hrel
                  by_cases htl : t < s.length
                  · have htl2 : (t : Int) < s.length := by omega
                    obtain ⟨gb2, go2, hgo, _, hcc⟩ := (HI.out.lies).1.at_ htl
                    injection hgo with hgo
                    injection hgo with hg1 hg2 _
                    subst hg1 hg2
                    have d0 := hcc t htl
                    have HCT := Lib.hid (contains_takeR s t x htl)
                    rw [← HQ.out] at HCT
                    clear hcc HQ
                    generalize s.getD t 0 = y at *
                    cases q with
                    | true =>
                      have HR := Lib.hid (show true = (s.take (t + 1)).contains x by rw [HCT.out]; rfl)
                      go_wp2_with fail
                      go_round
                      case rel => exact ⟨t + 1, true, by omega, by go_num, rfl, HR⟩
                      case measure => simp [intOf]; omega
                    | false =>
                      by_cases hyx : y = x
                      · have HR := Lib.hid (show true = (s.take (t + 1)).contains x by rw [HCT.out, hyx]; simp)
                        subst hyx
                        go_wp2_with fail
                        go_round
                        case rel => exact ⟨t + 1, true, by omega, by go_num, rfl, HR⟩
                        case measure => simp [intOf]; omega
                      · have hx2 : (y == x) = false := by simpa using hyx
                        have HR := Lib.hid (show false = (s.take (t + 1)).contains x by rw [HCT.out, hx2]; rfl)
                        replace hyx := Lib.hid hyx
                        go_wp2_with fail
                        go_round
                        case rel => exact ⟨t + 1, false, by omega, by go_num, rfl, HR⟩
                        case measure => simp [intOf]; omega
                  · obtain rfl : t = s.length := by omega
                    rw [List.take_of_length_le (Nat.le_refl _)] at HQ
                    have htl2 : ¬ (s.length : Int) < s.length := by omega
                    have hqq : (q != q) = false := by simp
                    go_wp2_with fail
                    refine (HI.out.has HX.out).mono ?_
                    rintro e w14 ⟨rfl, hl⟩
                    rw [← HQ.out]
                    replace HI := Lib.hid (HI.out.low hl)
                    replace HOP := Lib.hid (HOP.out.below (hl.mono HL.out.size))
                    replace HL := Lib.hid (HL.out.trans (hl.mono HL.out.size))
                    clear hl
                    go_wp2_with fail
                    go_roundw
                    case rel => exact ⟨i + 1, some ⟨gb, go, none⟩, c9, s, by omega, by omega, by go_num, rfl, HI, HOP, HL⟩
                    case measure => simp [intOf]; omega
            · go_wp2_with fail
              refine (HI.out.touch HL.out.size HX.out).mono ?_
              rintro e w8 ⟨rfl, hi8, hb8⟩
              rw [HMY.out]
              replace HOP := Lib.hid (HOP.out.below hb8)
              replace HL := Lib.hid (HL.out.trans hb8)
              rw [HTO.out] at hi8
              replace HI := Lib.hid hi8
              clear hi8 hb8 HTO
              obtain ⟨s, hs⟩ : ∃ s, s = l := ⟨_, rfl⟩
              obtain ⟨A9, hA9⟩ : ∃ A9, A9 = A' := ⟨_, rfl⟩
              obtain ⟨c9, hc9⟩ : ∃ c9, c9 = c' := ⟨_, rfl⟩
              rw [← hs, ← hA9, ← hc9] at HI
              rw [← hs, ← hA9, ← hc9]
              clear hs hA9 hc9

              have hsl := HI.out.right.2
              have hss : ((s.length : Int) != (s.length : Int)) = false := by simp
              by_cases hs0 : s.length = 0
              · obtain rfl : s = [] := List.eq_nil_of_length_eq_zero hs0
                clear hs0 hsl
                go_wp2_with fail
                refine (HI.out.oldest).mono ?_
                rintro e w10 ⟨rfl, hl⟩
                replace HI := Lib.hid (HI.out.low hl)
                replace HOP := Lib.hid (HOP.out.below (hl.mono HL.out.size))
                replace HL := Lib.hid (HL.out.trans (hl.mono HL.out.size))
                clear hl
                go_wp2_with fail
                refine (HI.out.all).mono ?_
                rintro e w11 ⟨A2, c2, rfl, hn2, hl⟩
                replace HI := Lib.hid (HI.out.low hl)
                replace HOP := Lib.hid (HOP.out.below (hl.mono HL.out.size))
                replace HL := Lib.hid (HL.out.trans (hl.mono HL.out.size))
                clear hl
                have HN2 := Lib.hid hn2
                clear hn2
                go_wp2_with fail
                refine (rints_any A2 A9 0 c2 0 c9 [] [] w11 (by omega) HN2.out (HI.out.lies).1).mono ?_
                rintro e w12 ⟨rfl, hl⟩
                rw [show decide (([] : List Int) = []) = true by simp]
                replace HI := Lib.hid (HI.out.low hl)
                replace HOP := Lib.hid (HOP.out.below (hl.mono HL.out.size))
                replace HL := Lib.hid (HL.out.trans (hl.mono HL.out.size))
                clear hl
                go_wp2_with fail
                refine (HI.out.len).mono ?_
                rintro e w13 ⟨rfl, hl⟩
                rw [show ((([] : List Int).length : Nat) : Int) = 0 from rfl]
                replace HI := Lib.hid (HI.out.low hl)
                replace HOP := Lib.hid (HOP.out.below (hl.mono HL.out.size))
                replace HL := Lib.hid (HL.out.trans (hl.mono HL.out.size))
                clear hl
                clear HN2
                go_wp2_with fail
                go_loop [15, 16] (fun v15 v16 => v16 = .int .i64 0 ∧ v15 = .bool false) (fun _ _ => 0)
                case atStart => exact ⟨rfl, rfl⟩
                case round =>
                  obtain ⟨rfl, rfl⟩ := hrel
                  go_wp2_with fail
                  refine (HI.out.has HX.out).mono ?_
                  rintro e w14 ⟨rfl, hl⟩
                  rw [show ([] : List Int).contains x = false by simp]
                  replace HI := Lib.hid (HI.out.low hl)
                  replace HOP := Lib.hid (HOP.out.below (hl.mono HL.out.size))
                  replace HL := Lib.hid (HL.out.trans (hl.mono HL.out.size))
                  clear hl
                  go_wp2_with fail
                  go_roundw
                  case rel => exact ⟨i + 1, A9, c9, [], by omega, by omega, by go_num, rfl, HI, HOP, HL⟩
                  case measure => simp [intOf]; omega
              · obtain ⟨j, hj⟩ : ∃ j, j = s.length - 1 := ⟨_, rfl⟩
                have hjl : j < s.length := by omega
                have hj1 : (s.length : Int) - 1 = j := by omega
                have hj2 : (j : Int) < s.length := by omega
                have hd0 : decide (0 < s.length) = true := decide_eq_true (by omega)
                have hs1 : (0 : Int) < s.length := by omega
                have hs2 : 0 < s.length := by omega
                go_wp2_with fail
                refine (HI.out.oldest).mono ?_
                rintro e w10 ⟨rfl, hl⟩
                obtain ⟨y, hy⟩ : ∃ y, y = s.getD j 0 := ⟨_, rfl⟩
                rw [← hj, hd0, ← hy]
                replace hj := Lib.hid hj
                replace hy := Lib.hid hy
                replace HI := Lib.hid (HI.out.low hl)
                replace HOP := Lib.hid (HOP.out.below (hl.mono HL.out.size))
                replace HL := Lib.hid (HL.out.trans (hl.mono HL.out.size))
                clear hl
                clear hd0
                go_wp2_with fail
                refine (HI.out.all).mono ?_
                rintro e w11 ⟨A2, c2, rfl, hn2, hl⟩
                replace HI := Lib.hid (HI.out.low hl)
                replace HOP := Lib.hid (HOP.out.below (hl.mono HL.out.size))
                replace HL := Lib.hid (HL.out.trans (hl.mono HL.out.size))
                clear hl
                have HN2 := Lib.hid hn2
                clear hn2
                go_wp2_with fail
                refine (rints_any A2 A9 s.length c2 s.length c9 s s w11 (by omega) HN2.out (HI.out.lies).1).mono ?_
                rintro e w12 ⟨rfl, hl⟩
                rw [show decide (s = s) = true by simp]
                replace HI := Lib.hid (HI.out.low hl)
                replace HOP := Lib.hid (HOP.out.below (hl.mono HL.out.size))
                replace HL := Lib.hid (HL.out.trans (hl.mono HL.out.size))
                clear hl
                go_wp2_with fail
                refine (HI.out.len).mono ?_
                rintro e w13 ⟨rfl, hl⟩
                replace HI := Lib.hid (HI.out.low hl)
                replace HOP := Lib.hid (HOP.out.below (hl.mono HL.out.size))
                replace HL := Lib.hid (HL.out.trans (hl.mono HL.out.size))
                clear hl
                clear HN2
                obtain ⟨gb, go, rfl, _, hcc⟩ := (HI.out.lies).1.at_ hjl
                have d0 := hcc j hjl
                rw [← hy.out] at d0
                clear hcc hy
                have hyy : (y != y) = false := by simp
                go_wp2_with fail
                clear d0 hyy hj1 hj2 hs1 hs2 hs0 hss
                go_loop [15, 16] (fun v15 v16 => ∃ (t : Nat) (q : Bool), t ≤ s.length ∧ v16 = .int .i64 t ∧ v15 = .bool q ∧ Hid (q = (s.take t).contains x)) (fun _ v16 => s.length - (intOf v16).toNat)
                case atStart => exact ⟨0, false, Nat.zero_le _, rfl, rfl, Lib.hid (by simp)⟩
                case round =>
                  obtain ⟨t, q, ht, rfl, rfl, HQ⟩ := hrel
                  by_cases htl : t < s.length
                  · have htl2 : (t : Int) < s.length := by omega
                    obtain ⟨gb2, go2, hgo, _, hcc⟩ := (HI.out.lies).1.at_ htl
                    injection hgo with hgo
                    injection hgo with hg1 hg2 _
                    subst hg1 hg2
                    have d0 := hcc t htl
                    have HCT := Lib.hid (contains_takeR s t x htl)
                    rw [← HQ.out] at HCT
                    clear hcc HQ
                    generalize s.getD t 0 = y at *
                    cases q with
                    | true =>
                      have HR := Lib.hid (show true = (s.take (t + 1)).contains x by rw [HCT.out]; rfl)
                      go_wp2_with fail
                      go_round
                      case rel => exact ⟨t + 1, true, by omega, by go_num, rfl, HR⟩
                      case measure => simp [intOf]; omega
                    | false =>
                      by_cases hyx : y = x
                      · have HR := Lib.hid (show true = (s.take (t + 1)).contains x by rw [HCT.out, hyx]; simp)
                        subst hyx
                        go_wp2_with fail
                        go_round
                        case rel => exact ⟨t + 1, true, by omega, by go_num, rfl, HR⟩
                        case measure => simp [intOf]; omega
                      · have hx2 : (y == x) = false := by simpa using hyx
                        have HR := Lib.hid (show false = (s.take (t + 1)).contains x by rw [HCT.out, hx2]; rfl)
                        replace hyx := Lib.hid hyx
                        go_wp2_with fail
                        go_round
                        case rel => exact ⟨t + 1, false, by omega, by go_num, rfl, HR⟩
                        case measure => simp [intOf]; omega
                  · obtain rfl : t = s.length := by omega
                    rw [List.take_of_length_le (Nat.le_refl _)] at HQ
                    have htl2 : ¬ (s.length : Int) < s.length := by omega
                    have hqq : (q != q) = false := by simp
                    go_wp2_with fail
                    refine (HI.out.has HX.out).mono ?_
                    rintro e w14 ⟨rfl, hl⟩
                    rw [← HQ.out]
                    replace HI := Lib.hid (HI.out.low hl)
                    replace HOP := Lib.hid (HOP.out.below (hl.mono HL.out.size))
                    replace HL := Lib.hid (HL.out.trans (hl.mono HL.out.size))
                    clear hl
                    go_wp2_with fail
                    go_roundw
                    case rel => exact ⟨i + 1, some ⟨gb, go, none⟩, c9, s, by omega, by omega, by go_num, rfl, HI, HOP, HL⟩
                    case measure => simp [intOf]; omega
        · have hk0 : ¬ K.tmod 3 = 0 := fun e => hk (.inl e)
          have hk1 : ¬ K.tmod 3 = 1 := fun e => hk (.inr e)
          have hk2 : (K.tmod 3 == 0) = false := by simpa using hk0
          have hk3 : (K.tmod 3 == 1) = false := by simpa using hk1
          clear hk
          by_cases hx0 : 0 ≤ x
          · go_wp2_with fail
            refine (HI.out.drop HL.out.size HX.out).mono ?_
            rintro e w8 ⟨rfl, hi8, hb8⟩
            obtain ⟨b, hb⟩ : ∃ b, b = l.contains x := ⟨_, rfl⟩
            rw [← hb]
            replace HOP := Lib.hid (HOP.out.below hb8)
            replace HL := Lib.hid (HL.out.trans hb8)
            have HI8 := Lib.hid hi8
            have HBE := Lib.hid hb
            clear hi8 hb8 HI hb
            go_wp2_with fail
            refine (rdropR_any A' l.length c' l x w8 (by omega) HX.out (HI8.out.lies).1).mono ?_
            rintro e w9 ⟨A9, c9, rfl, hc9, ho9, hl9⟩
            rw [← HBE.out]
            have HI := Lib.hid (HI8.out.take hc9 ho9 hl9)
            replace HOP := Lib.hid (HOP.out.below (hl9.mono HL.out.size))
            replace HL := Lib.hid (HL.out.trans (hl9.mono HL.out.size))
            clear hc9 ho9 hl9 HI8
            generalize dropR l x = s at *

            have hsl := HI.out.right.2
            have hbb : (b != b) = false := by simp
            have hss : ((s.length : Int) != (s.length : Int)) = false := by simp
            by_cases hs0 : s.length = 0
            · obtain rfl : s = [] := List.eq_nil_of_length_eq_zero hs0
              clear hs0 hsl
              go_wp2_with fail
              refine (HI.out.oldest).mono ?_
              rintro e w10 ⟨rfl, hl⟩
              replace HI := Lib.hid (HI.out.low hl)
              replace HOP := Lib.hid (HOP.out.below (hl.mono HL.out.size))
              replace HL := Lib.hid (HL.out.trans (hl.mono HL.out.size))
              clear hl
              go_wp2_with fail
              refine (HI.out.all).mono ?_
              rintro e w11 ⟨A2, c2, rfl, hn2, hl⟩
              replace HI := Lib.hid (HI.out.low hl)
              replace HOP := Lib.hid (HOP.out.below (hl.mono HL.out.size))
              replace HL := Lib.hid (HL.out.trans (hl.mono HL.out.size))
              clear hl
              have HN2 := Lib.hid hn2
              clear hn2
              go_wp2_with fail
              refine (rints_any A2 A9 0 c2 0 c9 [] [] w11 (by omega) HN2.out (HI.out.lies).1).mono ?_
              rintro e w12 ⟨rfl, hl⟩
              rw [show decide (([] : List Int) = []) = true by simp]
              replace HI := Lib.hid (HI.out.low hl)
              replace HOP := Lib.hid (HOP.out.below (hl.mono HL.out.size))
              replace HL := Lib.hid (HL.out.trans (hl.mono HL.out.size))
              clear hl
              go_wp2_with fail
              refine (HI.out.len).mono ?_
              rintro e w13 ⟨rfl, hl⟩
              rw [show ((([] : List Int).length : Nat) : Int) = 0 from rfl]
              replace HI := Lib.hid (HI.out.low hl)
              replace HOP := Lib.hid (HOP.out.below (hl.mono HL.out.size))
              replace HL := Lib.hid (HL.out.trans (hl.mono HL.out.size))
              clear hl
              clear HN2
              go_wp2_with fail
              go_loop [15, 16] (fun v15 v16 => v16 = .int .i64 0 ∧ v15 = .bool false) (fun _ _ => 0)
              case atStart => exact ⟨rfl, rfl⟩
              case round =>
                obtain ⟨rfl, rfl⟩ := hrel
                go_wp2_with fail
                refine (HI.out.has HX.out).mono ?_
                rintro e w14 ⟨rfl, hl⟩
                rw [show ([] : List Int).contains x = false by simp]
                replace HI := Lib.hid (HI.out.low hl)
                replace HOP := Lib.hid (HOP.out.below (hl.mono HL.out.size))
                replace HL := Lib.hid (HL.out.trans (hl.mono HL.out.size))
                clear hl
                go_wp2_with fail
                go_roundw
                case rel => exact ⟨i + 1, A9, c9, [], by omega, by omega, by go_num, rfl, HI, HOP, HL⟩
                case measure => simp [intOf]; omega
            · obtain ⟨j, hj⟩ : ∃ j, j = s.length - 1 := ⟨_, rfl⟩
              have hjl : j < s.length := by omega
              have hj1 : (s.length : Int) - 1 = j := by omega
              have hj2 : (j : Int) < s.length := by omega
              have hd0 : decide (0 < s.length) = true := decide_eq_true (by omega)
              have hs1 : (0 : Int) < s.length := by omega
              have hs2 : 0 < s.length := by omega
              go_wp2_with fail
              refine (HI.out.oldest).mono ?_
              rintro e w10 ⟨rfl, hl⟩
              obtain ⟨y, hy⟩ : ∃ y, y = s.getD j 0 := ⟨_, rfl⟩
              rw [← hj, hd0, ← hy]
              replace hj := Lib.hid hj
              replace hy := Lib.hid hy
              replace HI := Lib.hid (HI.out.low hl)
              replace HOP := Lib.hid (HOP.out.below (hl.mono HL.out.size))
              replace HL := Lib.hid (HL.out.trans (hl.mono HL.out.size))
              clear hl
              clear hd0
              go_wp2_with fail
              refine (HI.out.all).mono ?_
              rintro e w11 ⟨A2, c2, rfl, hn2, hl⟩
              replace HI := Lib.hid (HI.out.low hl)
              replace HOP := Lib.hid (HOP.out.below (hl.mono HL.out.size))
              replace HL := Lib.hid (HL.out.trans (hl.mono HL.out.size))
              clear hl
              have HN2 := Lib.hid hn2
              clear hn2
              go_wp2_with fail
              refine (rints_any A2 A9 s.length c2 s.length c9 s s w11 (by omega) HN2.out (HI.out.lies).1).mono ?_
              rintro e w12 ⟨rfl, hl⟩
              rw [show decide (s = s) = true by simp]
              replace HI := Lib.hid (HI.out.low hl)
              replace HOP := Lib.hid (HOP.out.below (hl.mono HL.out.size))
              replace HL := Lib.hid (HL.out.trans (hl.mono HL.out.size))
              clear hl
              go_wp2_with fail
              refine (HI.out.len).mono ?_
              rintro e w13 ⟨rfl, hl⟩
              replace HI := Lib.hid (HI.out.low hl)
              replace HOP := Lib.hid (HOP.out.below (hl.mono HL.out.size))
              replace HL := Lib.hid (HL.out.trans (hl.mono HL.out.size))
              clear hl
              clear HN2
              obtain ⟨gb, go, rfl, _, hcc⟩ := (HI.out.lies).1.at_ hjl
              have d0 := hcc j hjl
              rw [← hy.out] at d0
              clear hcc hy
              have hyy : (y != y) = false := by simp
              go_wp2_with fail
              clear d0 hyy hj1 hj2 hs1 hs2 hs0 hss hbb
              go_loop [15, 16] (fun v15 v16 => ∃ (t : Nat) (q : Bool), t ≤ s.length ∧ v16 = .int .i64 t ∧ v15 = .bool q ∧ Hid (q = (s.take t).contains x)) (fun _ v16 => s.length - (intOf v16).toNat)
              case atStart => exact ⟨0, false, Nat.zero_le _, rfl, rfl, Lib.hid (by simp)⟩
              case round =>
                obtain ⟨t, q, ht, rfl, rfl, HQ⟩ := hrel
                by_cases htl : t < s.length
                · have htl2 : (t : Int) < s.length := by omega
                  obtain ⟨gb2, go2, hgo, _, hcc⟩ := (HI.out.lies).1.at_ htl
                  injection hgo with hgo
                  injection hgo with hg1 hg2 _
                  subst hg1 hg2
                  have d0 := hcc t htl
                  have HCT := Lib.hid (contains_takeR s t x htl)
                  rw [← HQ.out] at HCT
                  clear hcc HQ
                  generalize s.getD t 0 = y at *
                  cases q with
                  | true =>
                    have HR := Lib.hid (show true = (s.take (t + 1)).contains x by rw [HCT.out]; rfl)
                    go_wp2_with fail
                    go_round
                    case rel => exact ⟨t + 1, true, by omega, by go_num, rfl, HR⟩
                    case measure => simp [intOf]; omega
                  | false =>
                    by_cases hyx : y = x
                    · have HR := Lib.hid (show true = (s.take (t + 1)).contains x by rw [HCT.out, hyx]; simp)
                      subst hyx
                      go_wp2_with fail
                      go_round
                      case rel => exact ⟨t + 1, true, by omega, by go_num, rfl, HR⟩
                      case measure => simp [intOf]; omega
                    · have hx2 : (y == x) = false := by simpa using hyx
                      have HR := Lib.hid (show false = (s.take (t + 1)).contains x by rw [HCT.out, hx2]; rfl)
                      replace hyx := Lib.hid hyx
                      go_wp2_with fail
                      go_round
                      case rel => exact ⟨t + 1, false, by omega, by go_num, rfl, HR⟩
                      case measure => simp [intOf]; omega
                · obtain rfl : t = s.length := by omega
                  rw [List.take_of_length_le (Nat.le_refl _)] at HQ
                  have htl2 : ¬ (s.length : Int) < s.length := by omega
                  have hqq : (q != q) = false := by simp
                  go_wp2_with fail
                  refine (HI.out.has HX.out).mono ?_
                  rintro e w14 ⟨rfl, hl⟩
                  rw [← HQ.out]
                  replace HI := Lib.hid (HI.out.low hl)
                  replace HOP := Lib.hid (HOP.out.below (hl.mono HL.out.size))
                  replace HL := Lib.hid (HL.out.trans (hl.mono HL.out.size))
                  clear hl
                  go_wp2_with fail
                  go_roundw
                  case rel => exact ⟨i + 1, some ⟨gb, go, none⟩, c9, s, by omega, by omega, by go_num, rfl, HI, HOP, HL⟩
                  case measure => simp [intOf]; omega
          · go_wp2_with fail
            refine (HI.out.drop HL.out.size HX.out).mono ?_
            rintro e w8 ⟨rfl, hi8, hb8⟩
            obtain ⟨b, hb⟩ : ∃ b, b = l.contains x := ⟨_, rfl⟩
            rw [← hb]
            replace HOP := Lib.hid (HOP.out.below hb8)
            replace HL := Lib.hid (HL.out.trans hb8)
            have HI8 := Lib.hid hi8
            have HBE := Lib.hid hb
            clear hi8 hb8 HI hb
            go_wp2_with fail
            refine (rdropR_any A' l.length c' l x w8 (by omega) HX.out (HI8.out.lies).1).mono ?_
            rintro e w9 ⟨A9, c9, rfl, hc9, ho9, hl9⟩
            rw [← HBE.out]
            have HI := Lib.hid (HI8.out.take hc9 ho9 hl9)
            replace HOP := Lib.hid (HOP.out.below (hl9.mono HL.out.size))
            replace HL := Lib.hid (HL.out.trans (hl9.mono HL.out.size))
            clear hc9 ho9 hl9 HI8
            generalize dropR l x = s at *

            have hsl := HI.out.right.2
            have hbb : (b != b) = false := by simp
            have hss : ((s.length : Int) != (s.length : Int)) = false := by simp
            by_cases hs0 : s.length = 0
            · obtain rfl : s = [] := List.eq_nil_of_length_eq_zero hs0
              clear hs0 hsl
              go_wp2_with fail
              refine (HI.out.oldest).mono ?_
              rintro e w10 ⟨rfl, hl⟩
              replace HI := Lib.hid (HI.out.low hl)
              replace HOP := Lib.hid (HOP.out.below (hl.mono HL.out.size))
              replace HL := Lib.hid (HL.out.trans (hl.mono HL.out.size))
              clear hl
              go_wp2_with fail
              refine (HI.out.all).mono ?_
              rintro e w11 ⟨A2, c2, rfl, hn2, hl⟩
              replace HI := Lib.hid (HI.out.low hl)
              replace HOP := Lib.hid (HOP.out.below (hl.mono HL.out.size))
              replace HL := Lib.hid (HL.out.trans (hl.mono HL.out.size))
              clear hl
              have HN2 := Lib.hid hn2
              clear hn2
              go_wp2_with fail
              refine (rints_any A2 A9 0 c2 0 c9 [] [] w11 (by omega) HN2.out (HI.out.lies).1).mono ?_
              rintro e w12 ⟨rfl, hl⟩
              rw [show decide (([] : List Int) = []) = true by simp]
              replace HI := Lib.hid (HI.out.low hl)
              replace HOP := Lib.hid (HOP.out.below (hl.mono HL.out.size))
              replace HL := Lib.hid (HL.out.trans (hl.mono HL.out.size))
              clear hl
              go_wp2_with fail
              refine (HI.out.len).mono ?_
              rintro e w13 ⟨rfl, hl⟩
              rw [show ((([] : List Int).length : Nat) : Int) = 0 from rfl]
              replace HI := Lib.hid (HI.out.low hl)
              replace HOP := Lib.hid (HOP.out.below (hl.mono HL.out.size))
              replace HL := Lib.hid (HL.out.trans (hl.mono HL.out.size))
              clear hl
              clear HN2
              go_wp2_with fail
              go_loop [15, 16] (fun v15 v16 => v16 = .int .i64 0 ∧ v15 = .bool false) (fun _ _ => 0)
              case atStart => exact ⟨rfl, rfl⟩
              case round =>
                obtain ⟨rfl, rfl⟩ := hrel
                go_wp2_with fail
                refine (HI.out.has HX.out).mono ?_
                rintro e w14 ⟨rfl, hl⟩
                rw [show ([] : List Int).contains x = false by simp]
                replace HI := Lib.hid (HI.out.low hl)
                replace HOP := Lib.hid (HOP.out.below (hl.mono HL.out.size))
                replace HL := Lib.hid (HL.out.trans (hl.mono HL.out.size))
                clear hl
                go_wp2_with fail
                go_roundw
                case rel => exact ⟨i + 1, A9, c9, [], by omega, by omega, by go_num, rfl, HI, HOP, HL⟩
                case measure => simp [intOf]; omega
            · obtain ⟨j, hj⟩ : ∃ j, j = s.length - 1 := ⟨_, rfl⟩
              have hjl : j < s.length := by omega
              have hj1 : (s.length : Int) - 1 = j := by omega
              have hj2 : (j : Int) < s.length := by omega
              have hd0 : decide (0 < s.length) = true := decide_eq_true (by omega)
              have hs1 : (0 : Int) < s.length := by omega
              have hs2 : 0 < s.length := by omega
              go_wp2_with fail
              refine (HI.out.oldest).mono ?_
              rintro e w10 ⟨rfl, hl⟩
              obtain ⟨y, hy⟩ : ∃ y, y = s.getD j 0 := ⟨_, rfl⟩
              rw [← hj, hd0, ← hy]
              replace hj := Lib.hid hj
              replace hy := Lib.hid hy
              replace HI := Lib.hid (HI.out.low hl)
              replace HOP := Lib.hid (HOP.out.below (hl.mono HL.out.size))
              replace HL := Lib.hid (HL.out.trans (hl.mono HL.out.size))
              clear hl
              clear hd0
              go_wp2_with fail
              refine (HI.out.all).mono ?_
              rintro e w11 ⟨A2, c2, rfl, hn2, hl⟩
              replace HI := Lib.hid (HI.out.low hl)
              replace HOP := Lib.hid (HOP.out.below (hl.mono HL.out.size))
              replace HL := Lib.hid (HL.out.trans (hl.mono HL.out.size))
              clear hl
              have HN2 := Lib.hid hn2
              clear hn2
              go_wp2_with fail
              refine (rints_any A2 A9 s.length c2 s.length c9 s s w11 (by omega) HN2.out (HI.out.lies).1).mono ?_
              rintro e w12 ⟨rfl, hl⟩
              rw [show decide (s = s) = true by simp]
              replace HI := Lib.hid (HI.out.low hl)
              replace HOP := Lib.hid (HOP.out.below (hl.mono HL.out.size))
              replace HL := Lib.hid (HL.out.trans (hl.mono HL.out.size))
              clear hl
              go_wp2_with fail
              refine (HI.out.len).mono ?_
              rintro e w13 ⟨rfl, hl⟩
              replace HI := Lib.hid (HI.out.low hl)
              replace HOP := Lib.hid (HOP.out.below (hl.mono HL.out.size))
              replace HL := Lib.hid (HL.out.trans (hl.mono HL.out.size))
              clear hl
              clear HN2
              obtain ⟨gb, go, rfl, _, hcc⟩ := (HI.out.lies).1.at_ hjl
              have d0 := hcc j hjl
              rw [← hy.out] at d0
              clear hcc hy
              have hyy : (y != y) = false := by simp
              go_wp2_with fail
              clear d0 hyy hj1 hj2 hs1 hs2 hs0 hss hbb
              go_loop [15, 16] (fun v15 v16 => ∃ (t : Nat) (q : Bool), t ≤ s.length ∧ v16 = .int .i64 t ∧ v15 = .bool q ∧ Hid (q = (s.take t).contains x)) (fun _ v16 => s.length - (intOf v16).toNat)
              case atStart => exact ⟨0, false, Nat.zero_le _, rfl, rfl, Lib.hid (by simp)⟩
              case round =>
                obtain ⟨t, q, ht, rfl, rfl, HQ⟩ := hrel
                by_cases htl : t < s.length
                · have htl2 : (t : Int) < s.length := by omega
                  obtain ⟨gb2, go2, hgo, _, hcc⟩ := (HI.out.lies).1.at_ htl
                  injection hgo with hgo
                  injection hgo with hg1 hg2 _
                  subst hg1 hg2
                  have d0 := hcc t htl
                  have HCT := Lib.hid (contains_takeR s t x htl)
                  rw [← HQ.out] at HCT
                  clear hcc HQ
                  generalize s.getD t 0 = y at *
                  cases q with
                  | true =>
                    have HR := Lib.hid (show true = (s.take (t + 1)).contains x by rw [HCT.out]; rfl)
                    go_wp2_with fail
                    go_round
                    case rel => exact ⟨t + 1, true, by omega, by go_num, rfl, HR⟩
                    case measure => simp [intOf]; omega
                  | false =>
                    by_cases hyx : y = x
                    · have HR := Lib.hid (show true = (s.take (t + 1)).contains x by rw [HCT.out, hyx]; simp)
                      subst hyx
                      go_wp2_with fail
                      go_round
                      case rel => exact ⟨t + 1, true, by omega, by go_num, rfl, HR⟩
                      case measure => simp [intOf]; omega
                    · have hx2 : (y == x) = false := by simpa using hyx
                      have HR := Lib.hid (show false = (s.take (t + 1)).contains x by rw [HCT.out, hx2]; rfl)
                      replace hyx := Lib.hid hyx
                      go_wp2_with fail
                      go_round
                      case rel => exact ⟨t + 1, false, by omega, by go_num, rfl, HR⟩
                      case measure => simp [intOf]; omega
                · obtain rfl : t = s.length := by omega
                  rw [List.take_of_length_le (Nat.le_refl _)] at HQ
                  have htl2 : ¬ (s.length : Int) < s.length := by omega
                  have hqq : (q != q) = false := by simp
                  go_wp2_with fail
                  refine (HI.out.has HX.out).mono ?_
                  rintro e w14 ⟨rfl, hl⟩
                  rw [← HQ.out]
                  replace HI := Lib.hid (HI.out.low hl)
                  replace HOP := Lib.hid (HOP.out.below (hl.mono HL.out.size))
                  replace HL := Lib.hid (HL.out.trans (hl.mono HL.out.size))
                  clear hl
                  go_wp2_with fail
                  go_roundw
                  case rel => exact ⟨i + 1, some ⟨gb, go, none⟩, c9, s, by omega, by omega, by go_num, rfl, HI, HOP, HL⟩
                  case measure => simp [intOf]; omega
      · clear HOP
        by_cases him : i < m
        · have hlt1 : (i : Int) < m := by omega
          have hlt3 : (100 : Int) ≤ i := by omega
          clear hlt
          go_wp2_with fail
          refine (HLV.out wr).mono ?_
          rintro e w4 ⟨rfl, hl⟩
          have hL9 := Lib.hid (HL.out.trans (hl.mono HL.out.size))
          clear hl
          go_wp2_with fail
          go_ret
          exact ⟨rfl, hL9.out⟩
        · have hlt1 : ¬ (i : Int) < m := by omega
          clear hlt
          go_wp2_with fail
          refine (HLV.out wr).mono ?_
          rintro e w4 ⟨rfl, hl⟩
          have hL9 := Lib.hid (HL.out.trans (hl.mono HL.out.size))
          clear hl
          go_wp2_with fail
          go_ret
          exact ⟨rfl, hL9.out⟩
  · have HN := Lib.hid (fun u => O.newNot N u hN hr)
    by_cases h1 : N < 1
    · go_enter Try.func3, Try.ntmps3
      go_wp2_with fail
      refine (HN.out w).mono ?_
      rintro e w1 ⟨rfl, hl⟩
      have hL := Lib.hid hl
      clear hl
      go_wp2_with fail
      refine (HLV.out w1).mono ?_
      rintro e w2 ⟨rfl, hl⟩
      replace hL := Lib.hid (hL.out.trans hl)
      clear hl
      go_wp2_with fail
      go_ret
      exact ⟨rfl, hL.out⟩
    · have h2 : 256 < N := by omega
      go_enter Try.func3, Try.ntmps3
      go_wp2_with fail
      refine (HN.out w).mono ?_
      rintro e w1 ⟨rfl, hl⟩
      have hL := Lib.hid hl
      clear hl
      go_wp2_with fail
      refine (HLV.out w1).mono ?_
      rintro e w2 ⟨rfl, hl⟩
      replace hL := Lib.hid (hL.out.trans hl)
      clear hl
      go_wp2_with fail
      go_ret
      exact ⟨rfl, hL.out⟩
end Go.Proofs.Ytpphkmedlpdccaa
