/- What addr.Of, and the document's own Of, tell of a slice of ints. Condition: the slice's room is an int. -/
import Derived.Test.YtcdeabiellefcaaDoorAdE
import Derived.Test.YtcdeabiellefcaaDoorReg3
namespace Go.Proofs.YtcdeabiellefcaaDoor
open Go.RowKit
set_option linter.unusedVariables false

/-- the byte at place i of the address of numbers -/
def ofAt (xs : List Int) (i : Nat) : Int := if i % 2 = 0 then xs.getD (i / 2) 0 / 256 % 256 else xs.getD (i / 2) 0 % 256
def ofL (xs : List Int) : List Int := (List.range 16).map (ofAt xs)
theorem ofL_length (xs : List Int) : (ofL xs).length = 16 := by simp [ofL]
theorem ofL_getD (xs : List Int) (k : Nat) (h : k < 16) : (ofL xs).getD k 0 = ofAt xs k := by simp [ofL, List.getD, h]
theorem ofL_all (xs : List Int) : AllB (ofL xs) := fun x hx => by
  obtain ⟨i, _, rfl⟩ := List.mem_map.1 hx
  unfold ofAt
  split <;> omega
theorem of_two (xs t : List Int) (k : Nat) (h : k < 8) (ht : t.length = 16) :
    (((ofL xs).take (2 * k) ++ t.drop (2 * k)).set (2 * k) (xs.getD k 0 / 256 % 256)).set (2 * k + 1) (xs.getD k 0 % 256) = (ofL xs).take (2 * (k + 1)) ++ t.drop (2 * (k + 1)) := by
  have e0 : xs.getD k 0 / 256 % 256 = (ofL xs).getD (2 * k) 0 := by rw [ofL_getD xs _ (by omega)]; unfold ofAt; rw [if_pos (by omega), show 2 * k / 2 = k by omega]
  have e1 : xs.getD k 0 % 256 = (ofL xs).getD (2 * k + 1) 0 := by rw [ofL_getD xs _ (by omega)]; unfold ofAt; rw [if_neg (by omega), show (2 * k + 1) / 2 = k by omega]
  rw [e0, e1, pref_set t (ofL xs) (2 * k) ht (ofL_length xs) (by omega), pref_set t (ofL xs) (2 * k + 1) ht (ofL_length xs) (by omega)]
  rfl
theorem of_end (xs : List Int) (m : Nat) (h : m = min xs.length 8) : (ofL xs).take (2 * m) ++ zero16.drop (2 * m) = ofL xs := by
  have hz : zero16.drop (2 * m) = (ofL xs).drop (2 * m) := by
    apply List.ext_getElem?
    intro i
    simp only [List.getElem?_drop]
    by_cases hi : 2 * m + i < 16
    · have h1 : (ofL xs)[2 * m + i]? = some (ofAt xs (2 * m + i)) := by simp [ofL, hi]
      have h2 : ofAt xs (2 * m + i) = 0 := by
        have : xs.getD ((2 * m + i) / 2) 0 = 0 := by simp [List.getD, List.getElem?_eq_none (show xs.length ≤ (2 * m + i) / 2 by omega)]
        unfold ofAt; rw [this]; simp
      have h3 : ∀ j : Fin 16, zero16[j.val]? = some 0 := by decide
      rw [h1, h2, h3 ⟨2 * m + i, hi⟩]
    · rw [List.getElem?_eq_none (by show (16 : Nat) ≤ _; omega), List.getElem?_eq_none (by rw [ofL_length]; omega)]
  rw [hz, List.take_append_drop]
theorem cell_far {w : World} {p a : Addr} {x : Value} (h : w.cell? a = some x) (hb : p.block ≠ a.block) (v : Value) : (w.setCell p v).cell? a = some x := by
  rw [← h]
  simp [World.setCell, World.cell?, Array.getElem?_modify, hb]
theorem two_zero16 (w : World) (t : TypeId) : Blk ((w.alloc (.cells (cellsB zero16).toArray t)).alloc (.cells (cellsB zero16).toArray t)) t w.heap.size zero16 ∧ Blk ((w.alloc (.cells (cellsB zero16).toArray t)).alloc (.cells (cellsB zero16).toArray t)) t (w.heap.size + 1) zero16 := ⟨box_first w _ _ _ _, box_second w _ _ _ _⟩

set_option maxHeartbeats 1600000 in
set_option maxRecDepth 100000 in
theorem of_any (A : Option Addr) (n c : Nat) (xs : List Int) (w : World) (hc : n ≤ c) (hc2 : c ≤ 9223372036854775807) (hb : Ns w w.heap.size A n xs) :
    Calls Tryd.prog 12 #[.slice A n c] w fun e w' => e = .returned (addrV (ofL xs)) ∧ Below w.heap.size w w' := by
  unfold addrV
  obtain ⟨b0, b1⟩ := two_zero16 w 23
  have HB0 := Lib.hid b0
  have HB1 := Lib.hid b1
  clear b0 b1
  have hL := low2 w zero16 zero16 23 23
  have HLEN := Lib.hid hb.len
  obtain ⟨m, hm⟩ : ∃ m, m = min n 8 := ⟨_, rfl⟩
  have HM := Lib.hid hm
  have hm1 : m ≤ n := by omega
  have hm2 : m ≤ 8 := by omega
  have hcs : (n ≤ 8 ∧ n = m) ∨ (¬ n ≤ 8 ∧ m = 8) := by omega
  clear hm
  rcases hcs with ⟨hn8, hme⟩ | ⟨hn8, hme⟩
  all_goals
    have HME := Lib.hid hme
    clear hme
    go_enter Tryd.func12, Tryd.ntmps12
    go_wp2_with fail
    go_loopw [12] (fun i wr => ∃ k : Nat, k ≤ m ∧ i = .int .i64 k ∧ Hid (Blk wr 23 w.heap.size zero16) ∧ Hid (Blk wr 23 (w.heap.size + 1) ((ofL xs).take (2 * k) ++ zero16.drop (2 * k))) ∧ Below w.heap.size w wr) (fun i _ => m - (intOf i).toNat)
    case atStart => exact ⟨0, Nat.zero_le _, rfl, HB0, HB1, hL⟩
    case round =>
      clear HB0 HB1 hL
      obtain ⟨k, hk, rfl, HZ, HR, hB⟩ := hrel
      by_cases hlt : k < m
      · have hk8 : k < 8 := by omega
        have hkn : k < n := by omega
        obtain ⟨b, o, rfl, hbw, hcell⟩ := hb.mem (by omega)
        have h0 := hcell k hkn
        rw [← hB.cell (p := ⟨b, o + k, none⟩) hbw] at h0
        clear hcell
        have HX := Lib.hid (of_two xs zero16 k hk8 rfl)
        have hv := hb.nonneg k
        obtain ⟨y1, hy1⟩ : ∃ y, (cellsB ((ofL xs).take (2 * k) ++ zero16.drop (2 * k)))[2 * k]? = some (.int .u8 y) := ⟨_, cellsB_get (by simp [ofL_length, zero16]; omega)⟩
        obtain ⟨y2, hy2⟩ : ∃ y, (cellsB ((ofL xs).take (2 * k) ++ zero16.drop (2 * k)))[2 * k + 1]? = some (.int .u8 y) := ⟨_, cellsB_get (by simp [ofL_length, zero16]; omega)⟩
        have h1 := HR.out.cell (2 * k)
        rw [hy1] at h1
        have h2 := HR.out.cell (2 * k + 1)
        rw [hy2] at h2
        have f1 := HR.out.frozen (2 * k)
        have f2 := HR.out.frozen (2 * k + 1)
        clear hy1 hy2
        generalize xs.getD k 0 = x at *
        go_wp2
        go_roundw
        case rel =>
          refine ⟨k + 1, by omega, by go_num, Lib.hid ((HZ.out.far (by dsimp only; omega) _).far (by dsimp only; omega) _), ?_, (hB.setCell (by dsimp only; omega) _).setCell (by dsimp only; omega) _⟩
          rw [← HX.out]
          exact (HR.out.set_ (2 * k) _).set_ (2 * k + 1) _
        case measure => simp [intOf]; omega
      · obtain rfl : k = m := by omega
        have hme := HME.out
        first | (have hge : ¬ k < n := by omega) | (have hge : ¬ k < 8 := by omega)
        clear hme
        have HT := Lib.hid (of_end xs k (by rw [HLEN.out]; exact HM.out))
        rw [HT.out] at HR
        have HW := Lib.hid (ofL_length xs)
        clear HT
        go_wp2_with (first
          | (with_reducible refine wpList_load_addr rfl (.tmp 3) rfl (w.heap.size + 1) rfl _ (ofL xs) HR.out HW.out ?_)
          | ((with_reducible refine wpList_store_addr rfl (.tmp 2) (.tmp 30) rfl w.heap.size rfl (ofL xs) rfl _ zero16 HZ.out rfl HW.out ?_); intro w2 HG hb2 hz2))
        refine bodyPost_ret (v := .agg (cellsB (ofL xs)).toArray) (results_cell_row Tryd.results12 _ _ w.heap.size _ _ _ _ rfl HG Tryd.underlying23 rfl (by rw [addr_size]; simp [cellsB_length, HW.out])) rfl ⟨rfl, hB.trans (hb2.mono (by omega))⟩

set_option maxHeartbeats 1600000 in
set_option maxRecDepth 100000 in
theorem rof_any (A : Option Addr) (n c : Nat) (xs : List Int) (w : World) (hn : n ≤ 17592186044416) (hb : Ns w w.heap.size A n xs) :
    Calls Tryd.prog 13 #[.slice A n c] w fun e w' => e = .returned (addrV (ofL xs)) ∧ Below w.heap.size w w' := by
  unfold addrV
  obtain ⟨b0, b1⟩ := two_zero16 w 23
  have HB0 := Lib.hid b0
  have HB1 := Lib.hid b1
  clear b0 b1
  have hL := low2 w zero16 zero16 23 23
  have HLEN := Lib.hid hb.len
  obtain ⟨m, hm⟩ : ∃ m, m = min n 8 := ⟨_, rfl⟩
  have HM := Lib.hid hm
  have hm1 : m ≤ n := by omega
  have hm2 : m ≤ 8 := by omega
  clear hm
  go_enter Tryd.func13, Tryd.ntmps13
  go_wp2_with fail
  go_loopw [4] (fun i wr => ∃ k : Nat, k ≤ m ∧ i = .int .i64 k ∧ Hid (Blk wr 23 w.heap.size zero16) ∧ Hid (Blk wr 23 (w.heap.size + 1) ((ofL xs).take (2 * k) ++ zero16.drop (2 * k))) ∧ Below w.heap.size w wr) (fun i _ => m - (intOf i).toNat)
  case atStart => exact ⟨0, Nat.zero_le _, rfl, HB0, HB1, hL⟩
  case round =>
    clear HB0 HB1 hL
    obtain ⟨k, hk, rfl, HZ, HR, hB⟩ := hrel
    by_cases hlt : k < m
    · have hk8 : k < 8 := by omega
      have hkn : k < n := by omega
      obtain ⟨b, o, rfl, hbw, hcell⟩ := hb.mem (by omega)
      have h0 := hcell k hkn
      rw [← hB.cell (p := ⟨b, o + k, none⟩) hbw] at h0
      clear hcell
      have HX := Lib.hid (of_two xs zero16 k hk8 rfl)
      have hv := hb.nonneg k
      obtain ⟨y1, hy1⟩ : ∃ y, (cellsB ((ofL xs).take (2 * k) ++ zero16.drop (2 * k)))[2 * k]? = some (.int .u8 y) := ⟨_, cellsB_get (by simp [ofL_length, zero16]; omega)⟩
      obtain ⟨y2, hy2⟩ : ∃ y, (cellsB ((ofL xs).take (2 * k) ++ zero16.drop (2 * k)))[2 * k + 1]? = some (.int .u8 y) := ⟨_, cellsB_get (by simp [ofL_length, zero16]; omega)⟩
      have HY1 := Lib.hid hy1
      have HY2 := Lib.hid hy2
      clear hy1 hy2
      generalize xs.getD k 0 = x at *
      go_wp2_with fail
      refine (rtwo_any x wr hv).mono ?_
      rintro e w1 ⟨v, rfl, g1, rfl, hg1, hk1, hl1, ha1, hlB⟩
      have hgz : w.heap.size + 1 < g1 := by have := HR.out.lt; omega
      replace HZ := Lib.hid (HZ.out.below hlB HZ.out.lt)
      replace HR := Lib.hid (HR.out.below hlB HR.out.lt)
      replace hB := hB.trans (hlB.mono hB.size)
      have HK := Lib.hid hk1
      have HL2 := Lib.hid (show two x = [x / 256 % 256, x % 256] from rfl)
      clear hl1 ha1 hlB hg1 hk1 h0
      have hx0 : 0 ≤ x / 256 % 256 ∧ x / 256 % 256 < 256 := by omega
      have hx1 : 0 ≤ x % 256 ∧ x % 256 < 256 := by omega
      have g0 : w1.cell? ⟨g1, 0, none⟩ = some (.int .u8 (x / 256 % 256)) := by rw [HK.out.cell 0, HL2.out]; rfl
      have g1' : w1.cell? ⟨g1, 1, none⟩ = some (.int .u8 (x % 256)) := by rw [HK.out.cell 1, HL2.out]; rfl
      go_wp2
      have q1 : IntKind.i64.wrap (2 * (k : Int)) = 2 * (k : Int) := wraps_i64 _ (by omega) (by omega)
      have q2 : IntKind.i64.wrap (2 * (k : Int) + 1) = 2 * (k : Int) + 1 := wraps_i64 _ (by omega) (by omega)
      have q4 : (2 * (k : Int)).toNat = 2 * k := by omega
      have q5 : (2 * (k : Int) + 1).toNat = 2 * k + 1 := by omega
      have q6 : 0 ≤ 2 * (k : Int) := by omega
      have q7 : 2 * (k : Int) < 16 := by omega
      have q8 : 0 ≤ 2 * (k : Int) + 1 := by omega
      have q9 : 2 * (k : Int) + 1 < 16 := by omega
      refine wp_region_planS (fun y => y.cell? ⟨g1, 0, none⟩ = some (.int .u8 (x / 256 % 256)) ∧ y.cell? ⟨g1, 1, none⟩ = some (.int .u8 (x % 256)))
        (.rd 0 (.rd 1 (.rd 2 (.rd 3 (.rd 4 (.rd 5 (.rd 6 (.rd 7 (.rd 8 (.rd 9 (.rd 10 (.rd 11 (.act 12 (.rd 13 (.act 14 (.done))))))))))))))))
        (by kernel_rfl) (by kernel_rfl) (fun _ _ d _ _ h => by cases d <;> exact h) (by kernel_rfl) ⟨g0, g1'⟩ ?_
      have HR2 : Hid (Blk w1.drew 23 (w.heap.size + 1) ((ofL xs).take (2 * k) ++ zero16.drop (2 * k))) := HR
      have HZ2 : Hid (Blk w1.drew 23 w.heap.size zero16) := HZ
      have hB2 : Below w.heap.size w w1.drew := hB.drew
      have c0 : w1.drew.cell? ⟨g1, 0, none⟩ = some (.int .u8 (x / 256 % 256)) := g0
      have c1 : w1.drew.cell? ⟨g1, 1, none⟩ = some (.int .u8 (x % 256)) := g1'
      have HS0 := Lib.hid c0
      have HS1 := Lib.hid c1
      clear HR HZ hB HK g0 g1' c0 c1
      generalize w1.drew = w2 at *
      have h1 := HR2.out.cell (2 * k)
      rw [HY1.out] at h1
      have h2 := HR2.out.cell (2 * k + 1)
      rw [HY2.out] at h2
      have f1 := HR2.out.frozen (2 * k)
      have f2 := HR2.out.frozen (2 * k + 1)
      iterate 12 (refine walkS_read (v := _) rfl (by rfl) (by rintro y ⟨e0, e1⟩; go_simp; try rfl) ?_; simp only [Act.put, List.setIfInBounds_toArray, List.set_cons_zero, List.set_cons_succ])
      refine walkS_act rfl (by rfl) (fun K hK => ?_)
      go_simp
      refine hK _ _ ⟨?_, ?_⟩ ?_
      · exact cell_far HS0.out (by dsimp only; omega) _
      · exact cell_far HS1.out (by dsimp only; omega) _
      clear hK K
      replace HS0 : Hid ((w2.setCell ⟨w.heap.size + 1, 2 * k, none⟩ (.int .u8 (x / 256 % 256))).cell? ⟨g1, 0, none⟩ = some (.int .u8 (x / 256 % 256))) := cell_far HS0.out (by dsimp only; omega) _
      replace HS1 : Hid ((w2.setCell ⟨w.heap.size + 1, 2 * k, none⟩ (.int .u8 (x / 256 % 256))).cell? ⟨g1, 1, none⟩ = some (.int .u8 (x % 256))) := cell_far HS1.out (by dsimp only; omega) _
      iterate 1 (refine walkS_read (v := _) rfl (by rfl) (by rintro y ⟨e0, e1⟩; go_simp; try rfl) ?_; simp only [Act.put, List.setIfInBounds_toArray, List.set_cons_zero, List.set_cons_succ])
      refine walkS_act rfl (by rfl) (fun K hK => ?_)
      go_simp
      refine hK _ _ ⟨?_, ?_⟩ ?_
      · exact cell_far HS0.out (by dsimp only; omega) _
      · exact cell_far HS1.out (by dsimp only; omega) _
      clear hK K
      unfold walkS
      clear q1 q2 q4 q5 q6 q7 q8 q9
      go_wp2
      go_roundw
      case rel =>
        refine ⟨k + 1, by omega, by go_num, Lib.hid ((HZ2.out.far (by dsimp only; omega) _).far (by dsimp only; omega) _), ?_, (hB2.setCell (by dsimp only; omega) _).setCell (by dsimp only; omega) _⟩
        rw [← HX.out]
        exact (HR2.out.set_ (2 * k) _).set_ (2 * k + 1) _
      case measure => simp [intOf]; omega
    · obtain rfl : k = m := by omega
      have HT := Lib.hid (of_end xs k (by rw [HLEN.out]; exact HM.out))
      rw [HT.out] at HR
      have HW := Lib.hid (ofL_length xs)
      clear HT
      by_cases hkn : k < n
      · have hk8 : ¬ k < 8 := by have := HM.out; omega
        go_wp2_with (first
          | (with_reducible refine wpList_load_addr rfl (.tmp 3) rfl (w.heap.size + 1) rfl _ (ofL xs) HR.out HW.out ?_)
          | ((with_reducible refine wpList_store_addr rfl (.tmp 2) (.tmp 34) rfl w.heap.size rfl (ofL xs) rfl _ zero16 HZ.out rfl HW.out ?_); intro w2 HG hb2 hz2))
        refine bodyPost_ret (v := .agg (cellsB (ofL xs)).toArray) (results_cell_row Tryd.results13 _ _ w.heap.size _ _ _ _ rfl HG Tryd.underlying23 rfl (by rw [addr_size]; simp [cellsB_length, HW.out])) rfl ⟨rfl, hB.trans (hb2.mono (by omega))⟩
      · go_wp2_with (first
          | (with_reducible refine wpList_load_addr rfl (.tmp 3) rfl (w.heap.size + 1) rfl _ (ofL xs) HR.out HW.out ?_)
          | ((with_reducible refine wpList_store_addr rfl (.tmp 2) (.tmp 34) rfl w.heap.size rfl (ofL xs) rfl _ zero16 HZ.out rfl HW.out ?_); intro w2 HG hb2 hz2))
        refine bodyPost_ret (v := .agg (cellsB (ofL xs)).toArray) (results_cell_row Tryd.results13 _ _ w.heap.size _ _ _ _ rfl HG Tryd.underlying23 rfl (by rw [addr_size]; simp [cellsB_length, HW.out])) rfl ⟨rfl, hB.trans (hb2.mono (by omega))⟩
end Go.Proofs.YtcdeabiellefcaaDoor
