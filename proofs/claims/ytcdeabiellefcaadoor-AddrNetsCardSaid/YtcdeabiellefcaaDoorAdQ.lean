/- What the document's own Text tells. Condition: an address is 16 bytes. -/
import Derived.Test.YtcdeabiellefcaaDoorAdP
namespace Go.Proofs.YtcdeabiellefcaaDoor
open Go.RowKit
set_option linter.unusedVariables false

/-- where the longest row begins, of those that begin at 0 to k -/
def bestF (z : Nat → Bool) : Nat → Nat
  | 0 => 0
  | k + 1 => if zrN z (bestF z k) < zrN z (k + 1) then k + 1 else bestF z k
theorem bestF_le (z : Nat → Bool) (k : Nat) : bestF z k ≤ k := by
  induction k with
  | zero => exact Nat.le_refl _
  | succ k ih =>
    rw [bestF]
    split
    · exact Nat.le_refl _
    · omega
theorem best_yes {z : Nat → Bool} {k : Nat} (h : zrN z (bestF z k) < zrN z (k + 1)) : bestF z (k + 1) = k + 1 := by rw [bestF, if_pos h]
theorem best_no {z : Nat → Bool} {k : Nat} (h : ¬ zrN z (bestF z k) < zrN z (k + 1)) : bestF z (k + 1) = bestF z k := by rw [bestF, if_neg h]
/-- the text of the first numbers -/
def rtx (ws : List Int) (b l : Nat) : Nat → List UInt8
  | 0 => []
  | i + 1 => if 2 ≤ l ∧ b ≤ i ∧ i < b + l then (if i = b then rtx ws b l i ++ [58, 58] else rtx ws b l i)
    else (if 0 < i ∧ (l < 2 ∨ ¬ i = b + l) then rtx ws b l i ++ [58] else rtx ws b l i) ++ hexL (ws.getD i 0).toNat
theorem rtx_length (ws : List Int) (b l i : Nat) : (rtx ws b l i).length ≤ 7 * i := by
  induction i with
  | zero => simp [rtx]
  | succ i ih =>
    rw [rtx]
    have := hexL_length (ws.getD i 0).toNat
    generalize hexL (ws.getD i 0).toNat = h at *
    split
    · split <;> simp <;> omega
    · split <;> simp <;> omega
def rtextL (s : List Int) : List UInt8 := rtx (wordsL s) (bestF (isZ (wordsL s)) 7) (zrN (isZ (wordsL s)) (bestF (isZ (wordsL s)) 7)) 8

theorem rhex_int (x : Int) (w : World) (h0 : 0 ≤ x) (h1 : x < 65536) :
    Calls Tryd.prog 24 #[.int .i64 x] w fun e w' => e = .returned (.string (strL (hexL x.toNat))) ∧ w = w' := by
  obtain ⟨u, rfl⟩ : ∃ u : Nat, x = u := ⟨x.toNat, by omega⟩
  exact rhex_any 4 u w (by omega) (by omega)
theorem exec_load_words {f : Operand → Value} {dd : Option Tmp} {x : Operand} {ty : TypeId} {pos : String} {gd : Option (Nat × Bool)} {w : World} {t : TypeId} {g : Nat} {s : List Int} (hx : f x = .pointer (some ⟨g, 0, none⟩)) (h : BlkN w t g s) (hs : s.length = 8) :
    (execOp f ⟨dd, .load 27 x, ty, pos, #[], gd⟩).run Tryd.prog w = .ok (.value (.agg (cellsN s).toArray)) w := by
  unfold execOp
  simp only [hx, Instr.loadAt, Instr.sureAddr, Sem.run_bind, Sem.run_pure, Result.andThen_ok, run_loadVar_row w g t 27 (cellsN s).toArray _ _ h Tryd.underlying27 rfl (by rw [words_size]; simp [cellsN_length, hs])]
theorem str_snoc (l m : List UInt8) (n : Nat) (hl : l.length ≤ 100) (hm : m.length ≤ 100) : strL l ++ strL m = strL (l ++ m) ∧ ¬ 9223372036854775807 < (strL l).size + (strL m).size := by
  refine ⟨strL_append l m, ?_⟩
  rw [strL_size, strL_size]; omega

set_option maxHeartbeats 3200000 in
set_option maxRecDepth 100000 in
theorem rtext_any (s : List Int) (w : World) (hs : s.length = 16) (vs : AllB s) :
    Calls Tryd.prog 9 #[addrV s] w fun e w' => e = .returned (.string (strL (rtextL s))) ∧ Below w.heap.size w w' := by
  unfold addrV
  have HS := Lib.hid hs
  clear hs
  have HB0 := Lib.hid (Blk.new w 23 s)
  have hL := low1 w s 23
  go_enter Tryd.func9, Tryd.ntmps9
  go_wp2_with (with_reducible refine wpList_load_addr rfl (.tmp 1) rfl w.heap.size rfl _ s HB0.out HS.out ?_)
  clear HB0
  generalize w.alloc (.cells (cellsB s).toArray 23) = w0 at *
  refine (rwords_any s w0 HS.out vs).mono ?_
  rintro e w1 ⟨rfl, hl⟩
  replace hL := hL.trans hl
  clear hl
  unfold wordsV
  have HW := Lib.hid (wordsL_length s)
  have HR := Lib.hid (words_range vs)
  have HT := Lib.hid (show rtextL s = rtx (wordsL s) (bestF (isZ (wordsL s)) 7) (zrN (isZ (wordsL s)) (bestF (isZ (wordsL s)) 7)) 8 from rfl)
  generalize wordsL s = ws at *
  have HN : Hid (BlkN (w1.alloc (.cells #[.int .i64 0, .int .i64 0, .int .i64 0, .int .i64 0, .int .i64 0, .int .i64 0, .int .i64 0, .int .i64 0] 27)) 27 w1.heap.size zero8) := BlkN.new w1 27 zero8
  have hl1 := Low.alloc w1 (.cells #[.int .i64 0, .int .i64 0, .int .i64 0, .int .i64 0, .int .i64 0, .int .i64 0, .int .i64 0, .int .i64 0] 27)
  go_wp2_with ((with_reducible refine wpList_store_words rfl (.tmp 3) (.tmp 10) rfl w1.heap.size rfl ws rfl _ zero8 HN.out rfl HW.out ?_); intro w2 HG hb2 hz2)
  have hB2 : Low w w2 := hL.trans (Below.trans (hl1.mono (Nat.le_refl _)) (hb2.mono (Nat.le_refl _)))
  have HG2 := Lib.hid HG
  clear HG hb2 hz2 hl1 HN hL
  generalize w1.heap.size = g at *
  go_loopw [4, 5] (fun b i wr => ∃ k : Nat, k ≤ 7 ∧ i = .int .i64 (k + 1 : Nat) ∧ b = .int .i64 (bestF (isZ ws) k : Nat) ∧ Hid (BlkN wr 27 g ws) ∧ Low w wr) (fun _ i _ => 8 - (intOf i).toNat)
  case atStart => exact ⟨0, Nat.zero_le _, rfl, rfl, HG2, hB2⟩
  case round =>
    clear HG2 hB2
    obtain ⟨k, hk, rfl, rfl, HG2, hB2⟩ := hrel
    by_cases hlt : k < 7
    · have hlt' : ((k + 1 : Nat) : Int) < 8 := by omega
      have HY := Lib.hid (best_yes (z := isZ ws) (k := k))
      have HN := Lib.hid (best_no (z := isZ ws) (k := k))
      have hbl := bestF_le (isZ ws) k
      go_wp2_with fail
      refine wp_region_plan (.rd 0 (.rd 1 (.rd 3 (.rd 4 (.act 2 (.act 5 (.rd 6 (.done))))))))
        (by kernel_rfl) (by kernel_rfl) (fun _ _ d _ _ h => by cases d <;> exact h) (by kernel_rfl) ?_
      have hDR : Low wr wr.drew := Below.drew (Below.refl _ _)
      replace hB2 := hB2.trans hDR
      replace HG2 : Hid (BlkN wr.drew 27 g ws) := HG2
      clear hDR
      generalize wr.drew = w3 at *
      iterate 4 (refine walkP_read (v := _) rfl (by rfl) (by intro y hy; first | exact exec_load_words rfl (HG2.out.below hy HG2.out.lt) HW.out | (go_simp; try rfl)) ?_; simp only [Act.put, List.setIfInBounds_toArray, List.set_cons_zero, List.set_cons_succ])
      refine walkP_act rfl (by rfl) (fun K hK => ?_)
      go_simp
      refine (zrun_any ws (k + 1) w3 HW.out (by omega)).mono ?_
      rintro e w4 ⟨rfl, hl⟩
      go_simp
      refine hK _ _ hl ?_
      clear hK K
      replace hB2 := hB2.trans hl
      replace HG2 := Lib.hid (HG2.out.below hl HG2.out.lt)
      clear hl
      refine walkP_act rfl (by rfl) (fun K hK => ?_)
      go_simp
      refine (zrun_any ws (bestF (isZ ws) k) w4 HW.out (by omega)).mono ?_
      rintro e w5 ⟨rfl, hl⟩
      go_simp
      refine hK _ _ hl ?_
      clear hK K
      replace hB2 := hB2.trans hl
      replace HG2 := Lib.hid (HG2.out.below hl HG2.out.lt)
      clear hl
      generalize zrN (isZ ws) (k + 1) = z1 at *
      generalize zrN (isZ ws) (bestF (isZ ws) k) = z2 at *
      iterate 1 (refine walkP_read (v := _) rfl (by rfl) (by intro y hy; go_simp; try rfl) ?_; simp only [Act.put, List.setIfInBounds_toArray, List.set_cons_zero, List.set_cons_succ])
      unfold walkP
      by_cases hz : z2 < z1
      · have HX := Lib.hid (HY.out hz)
        clear HY HN
        go_wp2_with fail
        go_roundw
        case rel => exact ⟨k + 1, by omega, by go_num, by rw [HX.out]; go_num, HG2, hB2⟩
        case measure => simp [intOf]; omega
      · have HX := Lib.hid (HN.out hz)
        clear HY HN
        go_wp2_with fail
        go_roundw
        case rel => exact ⟨k + 1, by omega, by go_num, by rw [HX.out], HG2, hB2⟩
        case measure => simp [intOf]; omega
    · obtain rfl : k = 7 := by omega
      have hbl := bestF_le (isZ ws) 7
      go_wp2_with (with_reducible refine wpList_load_words rfl (.tmp 3) rfl g rfl _ ws HG2.out HW.out ?_)
      refine (zrun_any ws (bestF (isZ ws) 7) wr HW.out (by omega)).mono ?_
      rintro e w6 ⟨rfl, hl⟩
      replace hB2 := hB2.trans hl
      replace HG2 := Lib.hid (HG2.out.below hl HG2.out.lt)
      clear hl
      have hzl := zrN_le (isZ ws) (bestF (isZ ws) 7)
      generalize zrN (isZ ws) (bestF (isZ ws) 7) = l at *
      generalize bestF (isZ ws) 7 = b at *
      go_wp2_with fail
      go_loop [7, 8] (fun v i => ∃ k : Nat, k ≤ 8 ∧ i = .int .i64 k ∧ v = .string (strL (rtx ws b l k))) (fun _ i => 8 - (intOf i).toNat)
      case atStart => exact ⟨0, Nat.zero_le _, rfl, rfl⟩
      case round =>
        obtain ⟨k, hk, rfl, rfl⟩ := hrel
        by_cases hlt : k < 8
        · have hlt' : (k : Int) < 8 := by omega
          have hrl := rtx_length ws b l k
          have HST := Lib.hid (show rtx ws b l (k + 1) = if 2 ≤ l ∧ b ≤ k ∧ k < b + l then (if k = b then rtx ws b l k ++ [58, 58] else rtx ws b l k)
            else (if 0 < k ∧ (l < 2 ∨ ¬ k = b + l) then rtx ws b l k ++ [58] else rtx ws b l k) ++ hexL (ws.getD k 0).toNat from rfl)
          have h0 := HG2.out.cell k
          rw [cellsN_get (by rw [HW.out]; exact hlt)] at h0
          have hv := HR.out k
          have hxl := hexL_length (ws.getD k 0).toNat
          generalize ws.getD k 0 = x at *
          have z1 := strL_size (rtx ws b l k)
          have z2 := strL_size (hexL x.toNat)
          have a1 := Lib.hid (strL_append (rtx ws b l k) [58])
          have a2 := Lib.hid (strL_append (rtx ws b l k) [58, 58])
          have a3 := Lib.hid (strL_append (rtx ws b l k) (hexL x.toNat))
          have a4 := Lib.hid (strL_append (rtx ws b l k ++ [58]) (hexL x.toNat))
          have s2 : ¬ 9223372036854775807 < (strL (rtx ws b l k)).size + 2 := by omega
          have s1 : ¬ 9223372036854775807 < (strL (rtx ws b l k)).size + 1 := by omega
          have s3 : ¬ 9223372036854775807 < (strL (rtx ws b l k)).size + (strL (hexL x.toNat)).size := by omega
          have s4 : ¬ 9223372036854775807 < (strL (rtx ws b l k)).size + 1 + (strL (hexL x.toNat)).size := by omega
          clear z1 z2 hrl hxl
          obtain ⟨R, hR⟩ : ∃ R, R = rtx ws b l k := ⟨_, rfl⟩
          rw [← hR] at HST a1 a2 a3 a4 s1 s2 s3 s4 ⊢
          clear hR
          by_cases hl2 : 2 ≤ l
          · have hl2i : (2 : Int) ≤ l := by omega
            have hl3 : ¬ l < 2 := by omega
            by_cases hbk : b ≤ k
            · by_cases hkb : k < b + l
              · by_cases he : k = b
                · have heb : ((k : Int) == (b : Int)) = true := by rw [beq_iff_eq]; omega
                  have HX := Lib.hid (HST.out.trans ((if_pos ⟨hl2, hbk, hkb⟩).trans (if_pos he)))
                  clear HST he
                  go_wp2_with fail
                  go_round
                  case rel => exact ⟨k + 1, by omega, by go_num, by rw [HX.out, ← a2.out]; rfl⟩
                  case measure => simp [intOf]; omega
                · have heb : ((k : Int) == (b : Int)) = false := by simp; omega
                  have HX := Lib.hid (HST.out.trans ((if_pos ⟨hl2, hbk, hkb⟩).trans (if_neg he)))
                  clear HST he
                  go_wp2_with fail
                  go_round
                  case rel => exact ⟨k + 1, by omega, by go_num, by rw [HX.out]⟩
                  case measure => simp [intOf]; omega
              · have hk0 : 0 < k := by omega
                by_cases he : k = b + l
                · have heb : ((k : Int) != (b : Int) + l) = false := by simp; omega
                  have hec : ((k : Int) == (b : Int) + l) = true := by rw [beq_iff_eq]; omega
                  have HX := Lib.hid (HST.out.trans ((if_neg (fun h => hkb h.2.2)).trans (congrArg (· ++ hexL x.toNat) (if_neg (fun h => h.2.elim hl3 (fun g => g he))))))
                  clear HST he
                  go_wp2_with fail
                  refine (rhex_int x w6 hv.1 hv.2).mono ?_
                  rintro e w7 ⟨rfl, rfl⟩
                  go_wp2_with fail
                  go_round
                  case rel => exact ⟨k + 1, by omega, by go_num, by rw [HX.out, ← a3.out]⟩
                  case measure => simp [intOf]; omega
                · have heb : ((k : Int) != (b : Int) + l) = true := by simp; omega
                  have hec : ((k : Int) == (b : Int) + l) = false := by simp; omega
                  have HX := Lib.hid (HST.out.trans ((if_neg (fun h => hkb h.2.2)).trans (congrArg (· ++ hexL x.toNat) (if_pos ⟨hk0, .inr he⟩))))
                  clear HST he
                  go_wp2_with fail
                  refine (rhex_int x w6 hv.1 hv.2).mono ?_
                  rintro e w7 ⟨rfl, rfl⟩
                  go_wp2_with fail
                  go_round
                  case rel => exact ⟨k + 1, by omega, by go_num, by rw [HX.out, ← a4.out, ← a1.out]; rfl⟩
                  case measure => simp [intOf]; omega
            · by_cases hk0 : 0 < k
              · have heb : ((k : Int) != (b : Int) + l) = true := by simp; omega
                have hec : ((k : Int) == (b : Int) + l) = false := by simp; omega
                have HX := Lib.hid (HST.out.trans ((if_neg (fun h => hbk h.2.1)).trans (congrArg (· ++ hexL x.toNat) (if_pos ⟨hk0, .inr (by omega)⟩))))
                clear HST
                go_wp2_with fail
                refine (rhex_int x w6 hv.1 hv.2).mono ?_
                rintro e w7 ⟨rfl, rfl⟩
                go_wp2_with fail
                go_round
                case rel => exact ⟨k + 1, by omega, by go_num, by rw [HX.out, ← a4.out, ← a1.out]; rfl⟩
                case measure => simp [intOf]; omega
              · have hk1 : ¬ (0 : Int) < k := by omega
                have HX := Lib.hid (HST.out.trans ((if_neg (fun h => hbk h.2.1)).trans (congrArg (· ++ hexL x.toNat) (if_neg (fun h => hk0 h.1)))))
                clear HST
                go_wp2_with fail
                refine (rhex_int x w6 hv.1 hv.2).mono ?_
                rintro e w7 ⟨rfl, rfl⟩
                go_wp2_with fail
                go_round
                case rel => exact ⟨k + 1, by omega, by go_num, by rw [HX.out, ← a3.out]⟩
                case measure => simp [intOf]; omega
          · have hl3 : l < 2 := by omega
            by_cases hk0 : 0 < k
            · have HX := Lib.hid (HST.out.trans ((if_neg (fun h => hl2 h.1)).trans (congrArg (· ++ hexL x.toNat) (if_pos ⟨hk0, .inl hl3⟩))))
              clear HST
              go_wp2_with fail
              refine (rhex_int x w6 hv.1 hv.2).mono ?_
              rintro e w7 ⟨rfl, rfl⟩
              go_wp2_with fail
              go_round
              case rel => exact ⟨k + 1, by omega, by go_num, by rw [HX.out, ← a4.out, ← a1.out]; rfl⟩
              case measure => simp [intOf]; omega
            · have hk1 : ¬ (0 : Int) < k := by omega
              have HX := Lib.hid (HST.out.trans ((if_neg (fun h => hl2 h.1)).trans (congrArg (· ++ hexL x.toNat) (if_neg (fun h => hk0 h.1)))))
              clear HST
              go_wp2_with fail
              refine (rhex_int x w6 hv.1 hv.2).mono ?_
              rintro e w7 ⟨rfl, rfl⟩
              go_wp2_with fail
              go_round
              case rel => exact ⟨k + 1, by omega, by go_num, by rw [HX.out, ← a3.out]⟩
              case measure => simp [intOf]; omega
        · obtain rfl : k = 8 := by omega
          go_wp2_with fail
          go_ret
          exact ⟨by rw [HT.out]; rfl, hB2⟩
end Go.Proofs.YtcdeabiellefcaaDoor
