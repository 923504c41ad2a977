/- What addr.Words, and the document's own Words, tell. Condition: an address is 16 bytes. -/
import Derived.Test.YtcdeabiellefcaaDoorAdD
import Derived.Test.YtcdeabiellefcaaDoorNums
namespace Go.Proofs.YtcdeabiellefcaaDoor
open Go.RowKit
set_option linter.unusedVariables false

/-- eight numbers by value -/
def wordsV (ws : List Int) : Value := .agg (cellsN ws).toArray
def zero8 : List Int := [0, 0, 0, 0, 0, 0, 0, 0]
def wordsL (s : List Int) : List Int := (List.range 8).map fun i => num2 s (2 * i)
theorem wordsL_length (s : List Int) : (wordsL s).length = 8 := by simp [wordsL]
theorem wordsL_getD (s : List Int) (k : Nat) (h : k < 8) : (wordsL s).getD k 0 = num2 s (2 * k) := by
  simp [wordsL, List.getD, h]
theorem words_size : (Tryd.prog.info? 27).map (·.size) = some 8 := by kernel_rfl
theorem BlkN.setRow {w : World} {t : TypeId} {g : Nat} {ys : List Int} (h : BlkN w t g ys) (zs : List Int) : BlkN (w.setRow g (cellsN zs).toArray) t g zs := setRow_heap w g _ _ t _ h

theorem wpList_load_words {ops : Array Oper} {rest : List Oper} {o : Oper} {a : Act} {w : World} {Q : Exit → Act → World → Prop} (hgd : o.guard = none) (x : Operand) (ho : o.op = .load 27 x)
    (g : Nat) (hx : a.eval x = .pointer (some ⟨g, 0, none⟩)) (t : TypeId) (s : List Int) (h : BlkN w t g s) (hs : s.length = 8)
    (hk : wpList Tryd.prog ops Q rest (a.put o.dst (.agg (cellsN s).toArray)) w) : wpList Tryd.prog ops Q (o :: rest) a w :=
  wpList_load_row hgd 27 x ho g hx t (cellsN s).toArray (0, 0) _ h Tryd.underlying27 rfl (by rw [words_size]; simp [cellsN_length, hs]) hk
theorem wpList_store_words {ops : Array Oper} {rest : List Oper} {o : Oper} {a : Act} {w : World} {Q : Exit → Act → World → Prop} (hgd : o.guard = none) (x y : Operand) (ho : o.op = .store 27 x y)
    (g : Nat) (hx : a.eval x = .pointer (some ⟨g, 0, none⟩)) (s : List Int) (hy : a.eval y = .agg (cellsN s).toArray) (t : TypeId) (old : List Int) (h : BlkN w t g old) (ho8 : old.length = 8) (hs : s.length = 8)
    (hk : ∀ w', BlkN w' t g s → Below g w w' → w'.heap.size = w.heap.size → wpList Tryd.prog ops Q rest (a.put o.dst undef) w') : wpList Tryd.prog ops Q (o :: rest) a w :=
  wpList_store_row hgd 27 x y ho g _ hx hy t _ h (by rw [words_size]; simp [cellsN_length, hs]) (by simp [cellsN_length, ho8, hs])
    (by rw [Array.all_eq_true_iff_forall_mem]; intro v hv; exact cellsN_one s v (by simpa using hv)) (hk _ (h.setRow s) (low_setRow _ _ _ (Nat.le_refl _)) (by simp))
theorem words_get (s t : List Int) (k : Nat) (hs : s.length = 8) (ht : t.length = 8) (hk : k < 8) : ∃ y, (cellsN (t.take k ++ s.drop k))[k]? = some (.int .i64 y) := by
  rw [cellsN_get (by simp [hs, ht]; omega)]
  exact ⟨_, rfl⟩
theorem words_set (s t : List Int) (k : Nat) (hs : s.length = 8) (ht : t.length = 8) (hk : k < 8) : (t.take k ++ s.drop k).set k (t.getD k 0) = t.take (k + 1) ++ s.drop (k + 1) := by
  rw [List.set_append_right _ _ (by simp [ht]; omega), drop_at s k (by omega)]
  simp only [List.length_take, ht, Nat.min_eq_left (Nat.le_of_lt hk), Nat.sub_self, List.set_cons_zero]
  rw [List.take_succ_eq_append_getElem (show k < t.length by omega), List.append_assoc, show t.getD k 0 = t[k] by simp [List.getD, show k < t.length by omega]]
  rfl
theorem box3 (w : World) (s : List Int) (t1 t2 t3 : TypeId) :
    Blk (((w.alloc (.cells (cellsB s).toArray t1)).alloc (.cells (cellsN zero8).toArray t2)).alloc (.cells (cellsN zero8).toArray t3)) t1 w.heap.size s ∧
    BlkN (((w.alloc (.cells (cellsB s).toArray t1)).alloc (.cells (cellsN zero8).toArray t2)).alloc (.cells (cellsN zero8).toArray t3)) t2 (w.heap.size + 1) zero8 ∧
    BlkN (((w.alloc (.cells (cellsB s).toArray t1)).alloc (.cells (cellsN zero8).toArray t2)).alloc (.cells (cellsN zero8).toArray t3)) t3 (w.heap.size + 1 + 1) zero8 := by
  have h2 := BlkN.new (w.alloc (.cells (cellsB s).toArray t1)) t2 zero8
  have h3 := BlkN.new ((w.alloc (.cells (cellsB s).toArray t1)).alloc (.cells (cellsN zero8).toArray t2)) t3 zero8
  rw [show (w.alloc (.cells (cellsB s).toArray t1)).heap.size = w.heap.size + 1 by simp] at h2
  rw [show ((w.alloc (.cells (cellsB s).toArray t1)).alloc (.cells (cellsN zero8).toArray t2)).heap.size = w.heap.size + 1 + 1 by simp] at h3
  exact ⟨((Blk.new w t1 s).alloc _).alloc _, h2.alloc _, h3⟩
theorem low3 (w : World) (s : List Int) (t1 t2 t3 : TypeId) : Low w (((w.alloc (.cells (cellsB s).toArray t1)).alloc (.cells (cellsN zero8).toArray t2)).alloc (.cells (cellsN zero8).toArray t3)) := ((Low.alloc w _).trans (Low.alloc _ _)).trans (Low.alloc _ _)

set_option maxHeartbeats 1600000 in
set_option maxRecDepth 100000 in
theorem words_any (s : List Int) (w : World) (hs : s.length = 16) (vs : AllB s) :
    Calls Tryd.prog 10 #[addrV s] w fun e w' => e = .returned (wordsV (wordsL s)) ∧ Below w.heap.size w w' := by
  unfold addrV wordsV
  have HS := Lib.hid hs
  clear hs
  obtain ⟨b0, b1, b2⟩ := box3 w s 23 27 27
  have HB0 := Lib.hid b0
  have HB1 := Lib.hid b1
  have HB2 := Lib.hid b2
  clear b0 b1 b2
  have hL := low3 w s 23 27 27
  go_enter Tryd.func10, Tryd.ntmps10
  go_wp2_with fail
  have HW := Lib.hid (wordsL_length s)
  go_loopw [5] (fun i wr => ∃ k : Nat, k ≤ 8 ∧ i = .int .i64 k ∧ Hid (Blk wr 23 w.heap.size s) ∧ Hid (BlkN wr 27 (w.heap.size + 1) zero8) ∧ Hid (BlkN wr 27 (w.heap.size + 1 + 1) ((wordsL s).take k ++ zero8.drop k)) ∧ Below w.heap.size w wr) (fun i _ => 8 - (intOf i).toNat)
  case atStart => exact ⟨0, Nat.zero_le _, rfl, HB0, HB1, HB2, hL⟩
  case round =>
    clear HB0 HB1 HB2 hL
    obtain ⟨k, hk, rfl, HA, HZ, HR, hB⟩ := hrel
    by_cases hlt : k < 8
    · have h0 := HA.out.cell (2 * k)
      rw [cellsB_get (by rw [HS.out]; omega)] at h0
      have h1 := HA.out.cell (2 * k + 1)
      rw [cellsB_get (by rw [HS.out]; omega)] at h1
      have h2 := HR.out.cell k
      have h3 := HR.out.frozen k
      obtain ⟨y0, hy0⟩ := words_get zero8 (wordsL s) k rfl HW.out hlt
      rw [hy0] at h2
      clear hy0
      have HX := Lib.hid (words_set zero8 (wordsL s) k rfl HW.out hlt)
      rw [wordsL_getD s k hlt] at HX
      unfold num2 at HX
      have v0 := vs.getD (2 * k)
      have v1 := vs.getD (2 * k + 1)
      generalize s.getD (2 * k) 0 = x at *
      generalize s.getD (2 * k + 1) 0 = y at *
      have HO := Lib.hid (or_i64_8 x y v0.1 v0.2 v1.1 v1.2)
      go_wp2
      have q0 : IntKind.i64.wrap x = x := wraps_i64 _ (by omega) (by omega)
      have r0 : IntKind.i64.wrap y = y := wraps_i64 _ (by omega) (by omega)
      have r1 : IntKind.i64.wrap (x * 256 + y) = x * 256 + y := wraps_i64 _ (by omega) (by omega)
      have q1 : IntKind.i64.wrap (2 * (k : Int)) = 2 * (k : Int) := wraps_i64 _ (by omega) (by omega)
      have q2 : IntKind.i64.wrap (2 * (k : Int) + 1) = 2 * (k : Int) + 1 := wraps_i64 _ (by omega) (by omega)
      have q3 : IntKind.i64.wrap (x * 256) = x * 256 := wraps_i64 _ (by omega) (by omega)
      have q4 : (2 * (k : Int)).toNat = 2 * k := by omega
      have q5 : (2 * (k : Int) + 1).toNat = 2 * k + 1 := by omega
      have q6 : 0 ≤ 2 * (k : Int) := by omega
      have q7 : 2 * (k : Int) < 16 := by omega
      have q8 : 0 ≤ 2 * (k : Int) + 1 := by omega
      have q9 : 2 * (k : Int) + 1 < 16 := by omega
      go_still_tail 15, (by kernel_rfl)
      clear q0 r0 r1 q1 q2 q3 q4 q5 q6 q7 q8 q9
      change wpList _ _ _ _ _ wr.drew
      rw [HO.out]
      have HA2 : Hid (Blk wr.drew 23 w.heap.size s) := HA
      have HZ2 : Hid (BlkN wr.drew 27 (w.heap.size + 1) zero8) := HZ
      have HR2 : Hid (BlkN wr.drew 27 (w.heap.size + 1 + 1) ((wordsL s).take k ++ zero8.drop k)) := HR
      have hB2 : Below w.heap.size w wr.drew := hB.drew
      have c0 : wr.drew.cell? ⟨w.heap.size + 1 + 1, k, none⟩ = some (.int .i64 y0) := h2
      have c1 : wr.drew.frozen? ⟨w.heap.size + 1 + 1, k, none⟩ = false := h3
      clear h0 h1 h2 h3 hB HA HZ HR
      generalize wr.drew = w2 at *
      go_wp2
      go_roundw
      case rel =>
        refine ⟨k + 1, by omega, by go_num, Lib.hid (HA2.out.far (by dsimp only; omega) _), Lib.hid (HZ2.out.far (by dsimp only; omega) _), ?_, hB2.setCell (by dsimp only; omega) _⟩
        rw [← HX.out]
        exact HR2.out.set_ k _
      case measure => simp [intOf]; omega
    · obtain rfl : k = 8 := by omega
      have HT := Lib.hid (show (wordsL s).take 8 ++ zero8.drop 8 = wordsL s by rw [List.take_of_length_le (by rw [HW.out]; omega), List.drop_eq_nil_of_le (by decide), List.append_nil])
      rw [HT.out] at HR
      clear HT
      go_wp2_with (first
        | (with_reducible refine wpList_load_words rfl (.tmp 3) rfl (w.heap.size + 1 + 1) rfl _ (wordsL s) HR.out HW.out ?_)
        | ((with_reducible refine wpList_store_words rfl (.tmp 2) (.tmp 24) rfl (w.heap.size + 1) rfl (wordsL s) rfl _ zero8 HZ.out rfl HW.out ?_); intro w2 HG hb2 hz2))
      refine bodyPost_ret (v := .agg (cellsN (wordsL s)).toArray) (results_cell_row Tryd.results10 _ _ (w.heap.size + 1) _ _ _ _ rfl HG Tryd.underlying27 rfl (by rw [words_size]; simp [cellsN_length, HW.out])) rfl ⟨rfl, hB.trans (hb2.mono (by omega))⟩

set_option maxHeartbeats 1600000 in
set_option maxRecDepth 100000 in
theorem rwords_any (s : List Int) (w : World) (hs : s.length = 16) (vs : AllB s) :
    Calls Tryd.prog 11 #[addrV s] w fun e w' => e = .returned (wordsV (wordsL s)) ∧ Below w.heap.size w w' := by
  unfold addrV wordsV
  have HS := Lib.hid hs
  clear hs
  obtain ⟨b0, b1, b2⟩ := box3 w s 23 27 27
  have HB0 := Lib.hid b0
  have HB1 := Lib.hid b1
  have HB2 := Lib.hid b2
  clear b0 b1 b2
  have hL := low3 w s 23 27 27
  go_enter Tryd.func11, Tryd.ntmps11
  go_wp2_with fail
  have HW := Lib.hid (wordsL_length s)
  go_loopw [4] (fun i wr => ∃ k : Nat, k ≤ 8 ∧ i = .int .i64 k ∧ Hid (Blk wr 23 w.heap.size s) ∧ Hid (BlkN wr 27 (w.heap.size + 1) zero8) ∧ Hid (BlkN wr 27 (w.heap.size + 1 + 1) ((wordsL s).take k ++ zero8.drop k)) ∧ Below w.heap.size w wr) (fun i _ => 8 - (intOf i).toNat)
  case atStart => exact ⟨0, Nat.zero_le _, rfl, HB0, HB1, HB2, hL⟩
  case round =>
    clear HB0 HB1 HB2 hL
    obtain ⟨k, hk, rfl, HA, HZ, HR, hB⟩ := hrel
    by_cases hlt : k < 8
    · have h0 := HA.out.cell (2 * k)
      rw [cellsB_get (by rw [HS.out]; omega)] at h0
      have h1 := HA.out.cell (2 * k + 1)
      rw [cellsB_get (by rw [HS.out]; omega)] at h1
      have h2 := HR.out.cell k
      have h3 := HR.out.frozen k
      obtain ⟨y0, hy0⟩ := words_get zero8 (wordsL s) k rfl HW.out hlt
      rw [hy0] at h2
      clear hy0
      have HX := Lib.hid (words_set zero8 (wordsL s) k rfl HW.out hlt)
      rw [wordsL_getD s k hlt] at HX
      unfold num2 at HX
      have v0 := vs.getD (2 * k)
      have v1 := vs.getD (2 * k + 1)
      generalize s.getD (2 * k) 0 = x at *
      generalize s.getD (2 * k + 1) 0 = y at *
      go_wp2
      have q0 : IntKind.i64.wrap x = x := wraps_i64 _ (by omega) (by omega)
      have r0 : IntKind.i64.wrap y = y := wraps_i64 _ (by omega) (by omega)
      have r1 : IntKind.i64.wrap (x * 256 + y) = x * 256 + y := wraps_i64 _ (by omega) (by omega)
      have q1 : IntKind.i64.wrap (2 * (k : Int)) = 2 * (k : Int) := wraps_i64 _ (by omega) (by omega)
      have q2 : IntKind.i64.wrap (2 * (k : Int) + 1) = 2 * (k : Int) + 1 := wraps_i64 _ (by omega) (by omega)
      have q3 : IntKind.i64.wrap (x * 256) = x * 256 := wraps_i64 _ (by omega) (by omega)
      have q4 : (2 * (k : Int)).toNat = 2 * k := by omega
      have q5 : (2 * (k : Int) + 1).toNat = 2 * k + 1 := by omega
      have q6 : 0 ≤ 2 * (k : Int) := by omega
      have q7 : 2 * (k : Int) < 16 := by omega
      have q8 : 0 ≤ 2 * (k : Int) + 1 := by omega
      have q9 : 2 * (k : Int) + 1 < 16 := by omega
      go_still_tail 15, (by kernel_rfl)
      clear q0 r0 r1 q1 q2 q3 q4 q5 q6 q7 q8 q9
      change wpList _ _ _ _ _ wr.drew
      have HA2 : Hid (Blk wr.drew 23 w.heap.size s) := HA
      have HZ2 : Hid (BlkN wr.drew 27 (w.heap.size + 1) zero8) := HZ
      have HR2 : Hid (BlkN wr.drew 27 (w.heap.size + 1 + 1) ((wordsL s).take k ++ zero8.drop k)) := HR
      have hB2 : Below w.heap.size w wr.drew := hB.drew
      have c0 : wr.drew.cell? ⟨w.heap.size + 1 + 1, k, none⟩ = some (.int .i64 y0) := h2
      have c1 : wr.drew.frozen? ⟨w.heap.size + 1 + 1, k, none⟩ = false := h3
      clear h0 h1 h2 h3 hB HA HZ HR
      generalize wr.drew = w2 at *
      go_wp2
      go_roundw
      case rel =>
        refine ⟨k + 1, by omega, by go_num, Lib.hid (HA2.out.far (by dsimp only; omega) _), Lib.hid (HZ2.out.far (by dsimp only; omega) _), ?_, hB2.setCell (by dsimp only; omega) _⟩
        rw [← HX.out]
        exact HR2.out.set_ k _
      case measure => simp [intOf]; omega
    · obtain rfl : k = 8 := by omega
      have HT := Lib.hid (show (wordsL s).take 8 ++ zero8.drop 8 = wordsL s by rw [List.take_of_length_le (by rw [HW.out]; omega), List.drop_eq_nil_of_le (by decide), List.append_nil])
      rw [HT.out] at HR
      clear HT
      go_wp2_with (first
        | (with_reducible refine wpList_load_words rfl (.tmp 3) rfl (w.heap.size + 1 + 1) rfl _ (wordsL s) HR.out HW.out ?_)
        | ((with_reducible refine wpList_store_words rfl (.tmp 2) (.tmp 24) rfl (w.heap.size + 1) rfl (wordsL s) rfl _ zero8 HZ.out rfl HW.out ?_); intro w2 HG hb2 hz2))
      refine bodyPost_ret (v := .agg (cellsN (wordsL s)).toArray) (results_cell_row Tryd.results11 _ _ (w.heap.size + 1) _ _ _ _ rfl HG Tryd.underlying27 rfl (by rw [words_size]; simp [cellsN_length, HW.out])) rfl ⟨rfl, hB.trans (hb2.mono (by omega))⟩
end Go.Proofs.YtcdeabiellefcaaDoor
