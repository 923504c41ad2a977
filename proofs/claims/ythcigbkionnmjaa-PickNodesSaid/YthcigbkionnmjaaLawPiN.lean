/- The walk of PickNodes, given what the program's own functions tell. Condition: the node is an int. -/
import Derived.Test.YthcigbkionnmjaaPiD
set_option maxRecDepth 100000
namespace Go.Proofs.Ythcigbkionnmjaa
open Go.RowKit
set_option linter.unusedVariables false

theorem contains_takeP (l : List Int) (i : Nat) (x : Int) (h : i < l.length) : (l.take (i + 1)).contains x = ((l.take i).contains x || l.getD i 0 == x) := by
  rw [List.take_succ_eq_append_getElem h]
  have e : l.getD i 0 = l[i] := by simp [List.getD, h]
  rw [e, Bool.eq_iff_iff]
  simp only [List.contains_iff_mem, List.mem_append, List.mem_singleton, Bool.or_eq_true, beq_iff_eq]
  constructor
  · rintro (h | h)
    · exact .inl h
    · exact .inr h.symm
  · rintro (h | h)
    · exact .inl h
    · exact .inr h.symm
set_option maxHeartbeats 1600000 in
theorem pin_walk (HT : PiTwos) (HN : PiNodes) (HH : PiHass) (A : Option Addr) (n c : Nat) (t : List Int) (node : Int) (w : World) (hn : n ≤ 140737488355328) (hnc : n ≤ c) (hnode : i64ok node) (hb : Ns w w.heap.size A n t) :
    Calls Try.prog 4 #[.slice A n c, .int .i64 node] w fun e w' => e = .returned (.bool true) ∧ Low w w' := by
  have HML := Lib.hid fun u => pilives_any HT HN HH u
  have HNN := Lib.hid (fun u (h1 : n ≤ 1000) hu => HN A n c t u h1 hnc hu)
  have HRN := Lib.hid (fun u (h1 : n ≤ 1000) hu => rnodes_any A n c t u h1 hu)
  have HHH := Lib.hid (fun u (h1 : n ≤ 1000) hu => HH A n c t node u h1 hnc hnode hu)
  have HHC := Lib.hid (show hasP t node = (nodesP t).contains node by rw [Bool.eq_iff_iff, hasP_iff]; simp)
  have HLN := Lib.hid (show (nodesP t).length ≤ n by have h1 := nodesP_len t; rw [hb.len] at h1; exact h1)
  have HB := Lib.hid hb
  clear hb HT HN HH
  generalize nodesP t = L at *
  by_cases hlt : n ≤ 300
  · have hlt2 : ¬ (300 : Int) < n := by omega
    go_enter Try.func4, Try.ntmps4
    go_wp2_with fail
    refine (HNN.out w (by omega) HB.out).mono ?_
    rintro e w2 ⟨A1, c1, rfl, _, hN1, _, hl⟩
    have hL := Lib.hid hl
    replace HB := Lib.hid (HB.out.below' hl hl.size)
    have HN1 := Lib.hid hN1
    clear hl hN1
    go_wp2_with fail
    refine (HRN.out w2 (by omega) HB.out).mono ?_
    rintro e w3 ⟨A2, c2, rfl, _, hN2, _, hl⟩
    replace hL := Lib.hid (hL.out.trans hl)
    replace HB := Lib.hid (HB.out.below' hl hl.size)
    replace HN1 := Lib.hid (HN1.out.below' hl hl.size)
    have HN2 := Lib.hid hN2
    clear hl hN2 HNN HRN
    obtain ⟨k, hk⟩ : ∃ k, k = L.length := ⟨_, rfl⟩
    rw [← hk] at HN1 HN2 HLN ⊢
    have hkn := HLN.out
    replace hk := Lib.hid hk
    go_wp2_with fail
    go_loopw [7, 8] (fun v7 v8 wr => ∃ (i : Nat) (q : Bool), i ≤ k ∧ v8 = .int .i64 i ∧ v7 = .bool q ∧ Hid (q = (L.take i).contains node) ∧ Hid (Ns wr w3.heap.size A1 k L) ∧ Hid (Ns wr w3.heap.size A2 k L) ∧ Hid (Ns wr w3.heap.size A n t) ∧ Hid (w3.heap.size ≤ wr.heap.size) ∧ Hid (Low w wr)) (fun _ v _ => k - (intOf v).toNat)
    case atStart => exact ⟨0, false, by omega, rfl, rfl, Lib.hid (by simp), HN1, HN2, HB, Lib.hid (Nat.le_refl _), hL⟩
    case round =>
      clear HN1 HN2 HB hL
      obtain ⟨i, q, hi, rfl, rfl, HQ, HN1, HN2, HB, HZ, hL⟩ := hrel
      by_cases hli : i < k
      · obtain ⟨b1, o1, rfl, _, h1⟩ := HN1.out.at_ hli
        obtain ⟨b2, o2, rfl, _, h2⟩ := HN2.out.at_ hli
        have d1 := h1 i hli
        have d2 := h2 i hli
        have HCT := Lib.hid (contains_takeP L i node (by rw [← hk.out]; exact hli))
        rw [← HQ.out] at HCT
        clear h1 h2 HQ
        have HDW := Lib.hid (show ∀ z, Ns (wr.drewN z) w3.heap.size (some ⟨b1, o1, none⟩) k L ∧ Ns (wr.drewN z) w3.heap.size (some ⟨b2, o2, none⟩) k L ∧ Ns (wr.drewN z) w3.heap.size A n t ∧ w3.heap.size ≤ (wr.drewN z).heap.size ∧ Low w (wr.drewN z) ∧ (wr.drewN z).cell? ⟨b2, o2 + i, none⟩ = some (.int .i64 (L.getD i 0)) from fun z => ⟨HN1.out.drewN z, HN2.out.drewN z, HB.out.drewN z, HZ.out, below_drewN hL.out z, d2⟩)
        generalize L.getD i 0 = x at *
        have hxx : (x != x) = false := by simp
        clear HN1 HN2 HB HZ hL
        go_wp2_with fail
        go_quiet (fail)
        obtain ⟨w4, hw4⟩ : ∃ w4, w4 = wr.drewN nq := ⟨_, rfl⟩
        rw [← hw4]
        obtain ⟨k1, k2, k3, k4, k5, k6⟩ := HDW.out nq
        rw [← hw4] at k1 k2 k3 k4 k5 k6
        replace k1 := Lib.hid k1
        replace k2 := Lib.hid k2
        replace k3 := Lib.hid k3
        replace k4 := Lib.hid k4
        replace k5 := Lib.hid k5
        clear hw4 HDW d1 d2
        cases q with
        | true =>
          have HR := Lib.hid (show true = (L.take (i + 1)).contains node by rw [HCT.out]; rfl)
          go_wp2_with fail
          go_roundw
          case rel => exact ⟨i + 1, true, by omega, by go_num, rfl, HR, k1, k2, k3, k4, k5⟩
          case measure => simp [intOf]; omega
        | false =>
          by_cases hx : x = node
          · have HR := Lib.hid (show true = (L.take (i + 1)).contains node by rw [HCT.out, hx]; simp)
            subst hx
            go_wp2_with fail
            go_roundw
            case rel => exact ⟨i + 1, true, by omega, by go_num, rfl, HR, k1, k2, k3, k4, k5⟩
            case measure => simp [intOf]; omega
          · have hx2 : (x == node) = false := by simpa using hx
            have HR := Lib.hid (show false = (L.take (i + 1)).contains node by rw [HCT.out, hx2]; rfl)
            go_wp2_with fail
            go_roundw
            case rel => exact ⟨i + 1, false, by omega, by go_num, rfl, HR, k1, k2, k3, k4, k5⟩
            case measure => simp [intOf]; omega
      · obtain rfl : i = k := by omega
        rw [List.take_of_length_le (by rw [← hk.out]; exact Nat.le_refl _), ← HHC.out] at HQ
        have hli2 : ¬ (i : Int) < i := by omega
        go_wp2_with fail
        refine (HHH.out wr (by omega) (HB.out.more HZ.out)).mono ?_
        rintro e w4 ⟨rfl, hl⟩
        rw [← HQ.out]
        replace hL := Lib.hid (hL.out.trans hl)
        have hqq : (q == q) = true := by simp
        clear hl
        go_wp2_with fail
        refine (HML.out w4).mono ?_
        rintro e w5 ⟨rfl, hl⟩
        replace hL := Lib.hid (hL.out.trans hl)
        clear hl
        go_wp2_with fail
        go_ret
        exact ⟨rfl, hL.out⟩
  · have hlt2 : (300 : Int) < n := by omega
    go_enter Try.func4, Try.ntmps4
    go_wp2_with fail
    refine (HML.out w).mono ?_
    rintro e w4 ⟨rfl, hl⟩
    go_wp2_with fail
    go_ret
    exact ⟨rfl, hl⟩
end Go.Proofs.Ythcigbkionnmjaa
