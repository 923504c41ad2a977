/- Stage 18: pick's going over the slots: the backends that are met from a slot on. Condition: at most 1000 slots. -/
import Derived.Test.YtedldebomoplmaaPiD
import Derived.Test.YtedldebomoplmaaSq
set_option maxRecDepth 100000
namespace Go.Proofs.Ytedldebomoplmaa
open Go.RowKit
set_option linter.unusedVariables false
attribute [local go_sem] Oper.semAt_some

/-- the backends among these, and how many of the first so many slots are some -/
def posP (r : List Int) : List Int := r.filter fun x => decide (0 < x)
def cntP (r : List Int) (i : Nat) : Nat := (posP (r.take i)).length
theorem wrap64_inS (n : Int) (h0 : -9223372036854775808 ≤ n) (h1 : n ≤ 9223372036854775807) : wrap64 n = n := by
  unfold wrap64
  omega
theorem cntP_zero (r : List Int) : cntP r 0 = 0 := rfl
theorem cntP_no {r : List Int} {i : Nat} (h : i < r.length) (h0 : ¬ 0 < r.getD i 0) : cntP r (i + 1) = cntP r i := by
  have e : r.getD i 0 = r[i] := by simp [List.getD, h]
  rw [e] at h0
  unfold cntP posP
  rw [List.take_succ_eq_append_getElem h, List.filter_append]
  simp [h0]
theorem cntP_yes {r : List Int} {i : Nat} (h : i < r.length) (h0 : 0 < r.getD i 0) : cntP r (i + 1) = cntP r i + 1 ∧ cntP r i < (posP r).length ∧ (posP r).getD (cntP r i) 0 = r.getD i 0 := by
  have e : r.getD i 0 = r[i] := by simp [List.getD, h]
  rw [e] at h0 ⊢
  have e1 : posP (r.take (i + 1)) = posP (r.take i) ++ [r[i]] := by
    unfold posP
    rw [List.take_succ_eq_append_getElem h, List.filter_append]
    simp [h0]
  have e2 : posP r = posP (r.take (i + 1)) ++ posP (r.drop (i + 1)) := by
    unfold posP
    rw [← List.filter_append, List.take_append_drop]
  refine ⟨by unfold cntP; rw [e1]; simp, by rw [e2, e1]; unfold cntP; simp, ?_⟩
  rw [e2, e1, List.append_assoc]
  unfold cntP List.getD
  rw [List.getElem?_append_right (Nat.le_refl _)]
  simp
theorem cntP_end (r : List Int) : cntP r r.length = (posP r).length := by unfold cntP; rw [List.take_length]
theorem roundP_mod {t : List Int} {a i : Nat} (ha : a < t.length) (hi : i < t.length) : t.getD ((a + i) % t.length) 0 = (roundP t a).getD i 0 := by
  by_cases h : a + i < t.length
  · rw [Nat.mod_eq_of_lt h, roundP_low h]
  · rw [roundP_high (by omega) (by omega) hi, Nat.mod_eq_sub_mod (by omega), Nat.mod_eq_of_lt (by omega)]
theorem fromP_find (t : List Int) (a : Nat) (o : Int) : fromP t a o = ((posP (roundP t a)).find? fun x => x != o).getD 0 := by
  unfold fromP posP
  rw [List.find?_filter]
  congr 2
  funext x
  cases decide (0 < x) <;> by_cases h : x = o <;> simp [h]

set_option maxHeartbeats 400000 in
theorem isback_any (x : Int) (w : World) : Calls Try.prog 35 #[.int .i64 x] w fun e w' => e = .returned (.bool (decide (0 < x))) ∧ w = w' := by
  by_cases h : 0 < x
  · rw [decide_eq_true h]
    go_enter Try.func35, Try.ntmps35
    go_wp2_with fail
    go_ret
    exact ⟨rfl, rfl⟩
  · rw [decide_eq_false h]
    go_enter Try.func35, Try.ntmps35
    go_wp2_with fail
    go_ret
    exact ⟨rfl, rfl⟩

set_option maxHeartbeats 400000 in
theorem round_any (A : Option Addr) (n c H : Nat) (w : World) : Calls Try.prog 33 #[.slice A n c, .int .u64 H] w fun e w' =>
    e = .returned (.func (.func 34) #[] #[.pointer (some ⟨w.heap.size, 0, none⟩), .pointer (some ⟨w.heap.size + 1, 0, none⟩)]) ∧
      BlkV w' 27 w.heap.size [.slice A n c] ∧ BlkV w' 23 (w.heap.size + 1) [.int .u64 H] ∧ w'.heap.size = w.heap.size + 2 ∧ Low w w' := by
  have k1 := BlkV.new w 27 [.slice A n c]
  have k2 := BlkV.new (w.alloc (.cells #[.slice A n c] 27)) 23 [.int .u64 H]
  have l1 := Low.alloc w (.cells #[.slice A n c] 27)
  have l2 := Low.alloc (w.alloc (.cells #[.slice A n c] 27)) (.cells #[.int .u64 H] 23)
  simp only [World.size_alloc] at k2
  have H1 := Lib.hid (k1.alloc (.cells #[.int .u64 H] 23))
  have H2 := Lib.hid k2
  have HL := Lib.hid (Low.trans l1 l2)
  clear k1 k2 l1 l2
  go_enter Try.func33, Try.ntmps33
  go_wp2_with fail
  go_ret
  exact ⟨by simp, H1.out, H2.out, by simp, HL.out⟩

/-- what the going over hands out, one by one -/
def metP (t : List Int) (H : Nat) : List Int := posP (roundP t (H % t.length))
set_option maxRecDepth 100000 in
set_option maxHeartbeats 3200000 in
theorem round1_any (k : Nat) (hk : 1 ≤ k) (A : Option Addr) (n c : Nat) (t : List Int) (H B n0 : Nat) (hn : n ≤ 1000) (hH : H < 18446744073709551616) (w : World) (hn0 : n0 ≤ B)
    (h1 : BlkV w 27 B [.slice A n c]) (h2 : BlkV w 23 (B + 1) [.int .u64 H]) (hb : Ns w n0 A n t) :
    SeqStopsK (α := Nat) Fence.wide k Try.prog 34 #[.pointer (some ⟨B, 0, none⟩), .pointer (some ⟨B + 1, 0, none⟩)] (fun x => #[.int .i64 ((metP t H).getD x 0)]) (KeepsTo n0 B 2) (fun xs => xs = List.range (metP t H).length) (fun pre => ∃ i, i < (metP t H).length ∧ pre = List.range (i + 1)) (metP t H).length w := by
  intro l J Jx W hW hJ hJx hY h0
  have HL := Lib.hid hb.len
  have H1 := Lib.hid (h1.below hW h1.lt)
  have H2 := Lib.hid (h2.below hW h2.lt)
  have HB := Lib.hid (hb.keep fun p hp => hW.cell (by have := h1.lt; omega))
  have c1 : W.cell? ⟨B, 0, none⟩ = some (.slice A n c) := by rw [H1.out.cell 0]; rfl
  have c2 : W.cell? ⟨B + 1, 0, none⟩ = some (.int .u64 H) := by rw [H2.out.cell 0]; rfl
  have HYY := Lib.hid hY
  have HJJ := Lib.hid hJ
  clear h1 h2 hb hW hJ hJx hY
  refine callsIn_of_wp Try.func34 rfl trivial ?_ rfl
  simp only [Try.ntmps34, List.size_toArray, List.length_cons, List.length_nil, Nat.reduceAdd, Nat.reduceSub, Array.replicate_succ, Array.replicate_zero, List.push_toArray, List.append_toArray, List.nil_append, List.cons_append]
  by_cases hn1 : n = 0
  · obtain rfl : t = [] := List.eq_nil_of_length_eq_zero (HL.out.trans hn1)
    subst hn1
    gi_wp2
    refine bodyPost_ret (results_none rfl _ _ _) rfl ?_
    rw [show (metP [] H).length = 0 by simp [metP, posP, roundP], List.range_zero]
    exact ⟨⟨_, rfl⟩, .inl h0⟩
  · have hz : ¬ (n : Int) = 0 := by omega
    have hwn : IntKind.u64.wrap (n : Int) = n := by rw [IntKind.wrap_u64]; omega
    have e1 := tmod_natP H n
    have hmod : H % n < n := Nat.mod_lt _ (by omega)
    have hw2 : IntKind.i64.wrap ((H % n : Nat) : Int) = ((H % n : Nat) : Int) := wraps_i64 _ (by omega) (by omega)
    have HM := Lib.hid (show metP t H = posP (roundP t (H % n)) by unfold metP; rw [HL.out])
    rw [HM.out] at HYY ⊢
    have HRM := Lib.hid (fun i (hi : i < n) => @roundP_mod t (H % n) i (by rw [HL.out]; exact hmod) (by rw [HL.out]; exact hi))
    rw [HL.out] at HRM
    generalize H % n = a at *
    have HRL := Lib.hid ((roundP_len t a).trans HL.out)
    generalize roundP t a = r at *
    gi_wp2
    clear c1 c2 e1 hwn hw2
    gi_loopw [18] (fun v18 wr => ∃ i : Nat, i ≤ n ∧ v18 = .int .i64 i ∧ Hid (J (List.range (cntP r i)) wr) ∧ Hid (KeepsTo n0 B 2 W wr)) (fun v18 _ => n - (intOf v18).toNat)
    case atStart => exact ⟨0, Nat.zero_le _, rfl, Lib.hid h0, Lib.hid (KeepsTo.refl _ _ _ _)⟩
    case round =>
      clear h0
      obtain ⟨i, hi, rfl, HJ, HK⟩ := hrel
      by_cases hlt : i < n
      · have hlt2 : (i : Int) < n := by omega
        have b1 := HK.out.blkv H1.out (by omega) (by omega)
        have c1 : wr.cell? ⟨B, 0, none⟩ = some (.slice A n c) := by rw [b1.cell 0]; rfl
        obtain ⟨b, o, rfl, _, hc⟩ := (HK.out.ns HB.out (Nat.le_refl _)).at_ hlt
        have hm : (a + i) % n < n := Nat.mod_lt _ (by omega)
        have c0 := hc ((a + i) % n) hm
        rw [HRM.out i hlt] at c0
        have ht : ((a : Int) + i).tmod (n : Int) = (((a + i) % n : Nat) : Int) := by rw [show (a : Int) + i = ((a + i : Nat) : Int) by simp, Int.ofNat_tmod]
        have hw : wrap64 ((a : Int) + i) = (a : Int) + i := wrap64_inS _ (by omega) (by omega)
        have HNO := Lib.hid (@cntP_no r i (by rw [HRL.out]; exact hlt))
        have HYE := Lib.hid (@cntP_yes r i (by rw [HRL.out]; exact hlt))
        clear hc b1 HRM
        generalize (a + i) % n = m at *
        obtain ⟨x, hx⟩ : ∃ x, x = r.getD i 0 := ⟨_, rfl⟩
        rw [← hx] at c0 HNO HYE
        clear hx
        have g1 : (m : Int) < n := by omega
        have HDR := Lib.hid (fun q => HJJ.out _ wr (wr.drewN q) none HJ.out ⟨rfl, rfl, rfl, Nat.le_refl _, fun _ _ _ => rfl⟩ (fun r e => by cases e))
        have HDK := Lib.hid (fun q => HK.out.drewN q)
        gi_wp2
        refine wpIn_wide.2 ?_
        go_quiet (fail)
        obtain ⟨w4, hw4⟩ : ∃ w4, w4 = wr.drewN nq := ⟨_, rfl⟩
        have HJ4 := HDR.out nq
        have HK4 := HDK.out nq
        rw [← hw4] at HJ4 HK4 ⊢
        replace HK4 := Lib.hid HK4
        clear hw4 HDR HDK c0 c1 hw ht g1 HJ HK
        by_cases hx : 0 < x
        · obtain ⟨e1, e2, e3⟩ := HYE.out hx
          have hy3 := HYY.out (List.range (cntP r i)) (cntP r i) w4 HJ4 (by simp; exact e2)
          rw [e3] at hy3
          obtain ⟨fn, tmps, assign, body, hy, hR⟩ := hy3
          have hd : decide (0 < x) = true := decide_eq_true hx
          have HE1 := Lib.hid e1
          have HE2 := Lib.hid e2
          clear e1 e2 e3 HYE HNO HYY
          gi_wp2
          refine ⟨trivial, (callsIn_wide.2 (isback_any x w4)).mono ?_⟩
          rintro e w5 ⟨rfl, rfl⟩
          rw [hd]
          gi_wp2
          refine hR.mono ?_
          rintro e W3 (⟨rfl, hj3, hk3⟩ | ⟨rfl, hx3⟩)
          · clear hR hy
            gi_wp2
            go_roundw
            case rel => exact ⟨i + 1, by omega, by go_num, Lib.hid (by rw [HE1.out, List.range_succ]; exact hj3), Lib.hid (HK4.out.trans hk3)⟩
            case measure => simp [intOf]; omega
          · gi_wp2
            refine bodyPost_ret (results_none rfl _ _ _) rfl ?_
            exact ⟨⟨_, rfl⟩, .inr ⟨_, ⟨cntP r i, HE2.out, by rw [List.range_succ]⟩, hx3⟩⟩
        · have HE1 := Lib.hid (HNO.out (by omega))
          have hd : decide (0 < x) = false := decide_eq_false hx
          clear HYE HNO HYY
          gi_wp2
          refine ⟨trivial, (callsIn_wide.2 (isback_any x w4)).mono ?_⟩
          rintro e w5 ⟨rfl, rfl⟩
          rw [hd]
          gi_wp2
          refine ⟨fun _ h => (by cases h), ?_⟩
          gi_wp2
          go_roundw
          case rel => exact ⟨i + 1, by omega, by go_num, Lib.hid (by rw [HE1.out]; exact HJ4), HK4⟩
          case measure => simp [intOf]; omega
      · obtain rfl : i = n := by omega
        gi_wp2
        go_end0
        exact ⟨⟨_, rfl⟩, .inl ⟨_, rfl, by have h9 := HJ.out; rw [← HRL.out, cntP_end] at h9; exact h9⟩⟩
end Go.Proofs.Ytedldebomoplmaa
