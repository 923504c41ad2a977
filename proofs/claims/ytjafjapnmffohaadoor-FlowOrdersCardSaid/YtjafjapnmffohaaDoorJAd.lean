/- Texts joined.
  What addr.Less, and the document's own Less, tell of two addresses. Condition: each is 16 bytes.
  What addr.Prefix and addr.In tell. Conditions: an address is 16 bytes, numbers are ints.
  What addr.In tells. Conditions: addresses are 16 bytes, the number is an int.
  What the document's own bit and In tell. Conditions: addresses are 16 bytes, the number is an int.
  What addr.Words, and the document's own Words, tell. Condition: an address is 16 bytes.
  What addr.Of, and the document's own Of, tell of a slice of ints. Condition: the slice's room is an int.
  What addr.longestRow, and the document's own zeros, tell of eight numbers. No condition but that there are eight.
-/
import Derived.Test.YtjafjapnmffohaaDoorJCk
import Derived.StillTailTactics
import Derived.Laws.Tables
import Derived.Test.YtjafjapnmffohaaDoorEq
import Derived.Test.YtjafjapnmffohaaDoorNums
import Derived.Test.YtjafjapnmffohaaDoorJReg
set_option maxRecDepth 100000
namespace Go.Proofs.YtjafjapnmffohaaDoor
open Go.RowKit
set_option linter.unusedVariables false

/-- is the first byte in which they differ less? -/
def lessL : List Int → List Int → Bool
  | x :: xs, y :: ys => if x = y then lessL xs ys else decide (x < y)
  | _, _ => false
theorem less_same {s d : List Int} {k : Nat} (hs : k < s.length) (hd : k < d.length) (h : s.getD k 0 = d.getD k 0) : lessL (s.drop k) (d.drop k) = lessL (s.drop (k + 1)) (d.drop (k + 1)) := by
  rw [drop_at s k hs, drop_at d k hd, lessL, if_pos h]
theorem less_other {s d : List Int} {k : Nat} (hs : k < s.length) (hd : k < d.length) (h : ¬ s.getD k 0 = d.getD k 0) : lessL (s.drop k) (d.drop k) = decide (s.getD k 0 < d.getD k 0) := by
  rw [drop_at s k hs, drop_at d k hd, lessL, if_neg h]
theorem less_end {s d : List Int} {k : Nat} (hs : s.length ≤ k) : lessL (s.drop k) (d.drop k) = false := by
  rw [List.drop_eq_nil_of_le hs]
  cases d.drop k <;> rfl
set_option maxHeartbeats 800000 in
theorem less_any (s d : List Int) (w : World) (hs : s.length = 16) (hd : d.length = 16) :
    Calls Tryd.prog 27 #[addrV s, addrV d] w fun e w' => e = .returned (.bool (lessL s d)) ∧ Below w.heap.size w w' := by
  unfold addrV
  have HS := Lib.hid hs
  have HD := Lib.hid hd
  have HB0 := Lib.hid (box_first w s d 23 23)
  have HB1 := Lib.hid (box_second w s d 23 23)
  have hL := low2 w s d 23 23
  clear hs hd
  go_enter Tryd.func27, Tryd.ntmps27
  go_wp2_with fail
  generalize (w.alloc (.cells (cellsB s).toArray 23)).alloc (.cells (cellsB d).toArray 23) = w2 at *
  go_loopw [6] (fun i wr => ∃ k : Nat, k ≤ 16 ∧ i = .int .i64 k ∧ Hid (lessL s d = lessL (s.drop k) (d.drop k)) ∧ Below w2.heap.size w2 wr) (fun i _ => 16 - (intOf i).toNat)
  case atStart => exact ⟨0, Nat.zero_le _, rfl, rfl, Below.refl _ _⟩
  case round =>
    obtain ⟨k, hk, rfl, HE, hB⟩ := hrel
    by_cases hlt : k < 16
    · have h0 := (HB0.out.below hB HB0.out.lt).cell k
      rw [cellsB_get (by rw [HS.out]; exact hlt)] at h0
      have h1 := (HB1.out.below hB HB1.out.lt).cell k
      rw [cellsB_get (by rw [HD.out]; exact hlt)] at h1
      have HLs := Lib.hid (less_same (s := s) (d := d) (k := k) (by rw [HS.out]; exact hlt) (by rw [HD.out]; exact hlt))
      have HLo := Lib.hid (less_other (s := s) (d := d) (k := k) (by rw [HS.out]; exact hlt) (by rw [HD.out]; exact hlt))
      obtain ⟨x, hx⟩ : ∃ x, x = s.getD k 0 := ⟨_, rfl⟩
      obtain ⟨y, hy⟩ : ∃ y, y = d.getD k 0 := ⟨_, rfl⟩
      rw [← hx, ← hy] at HLs HLo
      rw [← hx] at h0
      rw [← hy] at h1
      clear hx hy
      by_cases hxy : x = y
      · have HE2 := Lib.hid (HE.out.trans (HLs.out hxy))
        clear HE HLs HLo
        subst hxy
        go_wp2
        go_quiet (fail)
        go_wp2
        go_roundw
        case rel => exact ⟨k + 1, by omega, by go_num, HE2, below_drewN hB _⟩
        case measure => simp [intOf]; omega
      · have HE2 := Lib.hid (HE.out.trans (HLo.out hxy))
        clear HE HLs HLo
        have hxy' : (x == y) = false := by simpa using hxy
        have hxy2 : (x != y) = true := by simpa using hxy
        go_wp2
        go_quiet (fail)
        go_wp2
        go_quiet (fail)
        go_wp2
        go_ret
        exact ⟨ret_bool HE2.out.symm, hL.trans (below_drewN (below_drewN hB _) _)⟩
    · obtain rfl : k = 16 := by omega
      have HE2 := Lib.hid (HE.out.trans (less_end (by rw [HS.out]; omega)))
      go_wp2
      go_ret
      exact ⟨ret_bool HE2.out.symm, hL.trans hB⟩

set_option maxHeartbeats 800000 in
theorem rless_any (s d : List Int) (w : World) (hs : s.length = 16) (hd : d.length = 16) :
    Calls Tryd.prog 28 #[addrV s, addrV d] w fun e w' => e = .returned (.bool (lessL s d)) ∧ Below w.heap.size w w' := by
  unfold addrV
  have HS := Lib.hid hs
  have HD := Lib.hid hd
  have HB0 := Lib.hid (box_first w s d 23 23)
  have HB1 := Lib.hid (box_second w s d 23 23)
  have hL := low2 w s d 23 23
  clear hs hd
  go_enter Tryd.func28, Tryd.ntmps28
  go_wp2_with fail
  generalize (w.alloc (.cells (cellsB s).toArray 23)).alloc (.cells (cellsB d).toArray 23) = w2 at *
  go_loopw [5] (fun i wr => ∃ k : Nat, k ≤ 16 ∧ i = .int .i64 k ∧ Hid (lessL s d = lessL (s.drop k) (d.drop k)) ∧ Below w2.heap.size w2 wr) (fun i _ => 16 - (intOf i).toNat)
  case atStart => exact ⟨0, Nat.zero_le _, rfl, rfl, Below.refl _ _⟩
  case round =>
    obtain ⟨k, hk, rfl, HE, hB⟩ := hrel
    by_cases hlt : k < 16
    · have h0 := (HB0.out.below hB HB0.out.lt).cell k
      rw [cellsB_get (by rw [HS.out]; exact hlt)] at h0
      have h1 := (HB1.out.below hB HB1.out.lt).cell k
      rw [cellsB_get (by rw [HD.out]; exact hlt)] at h1
      have HLs := Lib.hid (less_same (s := s) (d := d) (k := k) (by rw [HS.out]; exact hlt) (by rw [HD.out]; exact hlt))
      have HLo := Lib.hid (less_other (s := s) (d := d) (k := k) (by rw [HS.out]; exact hlt) (by rw [HD.out]; exact hlt))
      obtain ⟨x, hx⟩ : ∃ x, x = s.getD k 0 := ⟨_, rfl⟩
      obtain ⟨y, hy⟩ : ∃ y, y = d.getD k 0 := ⟨_, rfl⟩
      rw [← hx, ← hy] at HLs HLo
      rw [← hx] at h0
      rw [← hy] at h1
      clear hx hy
      by_cases hxy : x = y
      · have HE2 := Lib.hid (HE.out.trans (HLs.out hxy))
        clear HE HLs HLo
        subst hxy
        go_wp2
        go_quiet (fail)
        go_wp2
        go_roundw
        case rel => exact ⟨k + 1, by omega, by go_num, HE2, below_drewN hB _⟩
        case measure => simp [intOf]; omega
      · have HE2 := Lib.hid (HE.out.trans (HLo.out hxy))
        clear HE HLs HLo
        have hxy' : (x == y) = false := by simpa using hxy
        have hxy2 : (x != y) = true := by simpa using hxy
        go_wp2
        go_quiet (fail)
        go_wp2
        go_quiet (fail)
        go_wp2
        go_ret
        exact ⟨ret_bool HE2.out.symm, hL.trans (below_drewN (below_drewN hB _) _)⟩
    · obtain rfl : k = 16 := by omega
      have HE2 := Lib.hid (HE.out.trans (less_end (by rw [HS.out]; omega)))
      go_wp2
      go_ret
      exact ⟨ret_bool HE2.out.symm, hL.trans hB⟩
end Go.Proofs.YtjafjapnmffohaaDoor

namespace Go.Proofs.YtjafjapnmffohaaDoor
open Go.RowKit
set_option linter.unusedVariables false

/-- how many bits of byte i stay -/
def keepN (n : Int) (i : Nat) : Nat := min (n - 8 * i).toNat 8
/-- the first k bits of a byte -/
def pre8 (x : Int) (k : Nat) : Int := x / 2 ^ (8 - k) * 2 ^ (8 - k)
def clampN (n : Int) : Int := if n < 0 then 0 else if 128 < n then 128 else n
def prefL (s : List Int) (n : Int) : List Int := (List.range 16).map fun i => pre8 (s.getD i 0) (keepN (clampN n) i)

theorem andNot_tab : ∀ x : Fin 256, ∀ j : Fin 9, bits .andNot .u8 (x.val : Int) (255 / 2 ^ j.val) = pre8 (x.val : Int) j.val := by decide +kernel
theorem andNot_pre8 (x : Int) (j : Nat) (h0 : 0 ≤ x) (h1 : x < 256) (hj : j ≤ 8) : bits .andNot .u8 x (255 / 2 ^ j) = pre8 x j := by
  have h := andNot_tab ⟨x.toNat, by omega⟩ ⟨j, by omega⟩
  simp only [Int.toNat_of_nonneg h0] at h
  exact h
theorem prefL_length (s : List Int) (n : Int) : (prefL s n).length = 16 := by simp [prefL]
theorem prefL_getD (s : List Int) (n : Int) (k : Nat) (h : k < 16) : (prefL s n).getD k 0 = pre8 (s.getD k 0) (keepN (clampN n) k) := by
  simp [prefL, List.getD, h]
theorem pref_get (s t : List Int) (k : Nat) (hs : s.length = 16) (ht : t.length = 16) (hk : k < 16) : (cellsB (t.take k ++ s.drop k))[k]? = some (.int .u8 (s.getD k 0)) := by
  rw [cellsB_get (by simp [hs, ht]; omega)]
  congr 2
  simp only [List.getD]
  rw [List.getElem?_append_right (by simp [ht]; omega)]
  simp [ht, Nat.min_eq_left (Nat.le_of_lt hk)]
end Go.Proofs.YtjafjapnmffohaaDoor

namespace Go.Proofs.YtjafjapnmffohaaDoor
open Go.RowKit
set_option linter.unusedVariables false

def inAd (s d : List Int) (n : Int) : Bool := prefL s n == prefL d n
end Go.Proofs.YtjafjapnmffohaaDoor

namespace Go.Proofs.YtjafjapnmffohaaDoor
open Go.RowKit
set_option linter.unusedVariables false

def bitB (s : List Int) (i : Nat) : Bool := s.getD (i / 8) 0 / 2 ^ (7 - i % 8) % 2 == 1
def rinB (s d : List Int) (n : Int) : Bool := (List.range (min n.toNat 128)).all fun i => bitB s i == bitB d i
theorem low1 (w : World) (s : List Int) (t : TypeId) : Low w (w.alloc (.cells (cellsB s).toArray t)) := Low.alloc w _

theorem rin_end {s d : List Int} {n : Int} {k : Nat} (h : (List.range k).all (fun i => bitB s i == bitB d i) = true) (hk : k = min n.toNat 128) : rinB s d n = true := by
  unfold rinB; rw [← hk]; exact h
theorem rin_not {s d : List Int} {n : Int} {k : Nat} (h : ¬ bitB s k = bitB d k) (hk : k < min n.toNat 128) : rinB s d n = false := by
  unfold rinB
  rw [List.all_eq_false]
  exact ⟨k, by simpa using hk, by simpa using h⟩
theorem rin_next {s d : List Int} {k : Nat} (h : (List.range k).all (fun i => bitB s i == bitB d i) = true) (e : bitB s k = bitB d k) : (List.range (k + 1)).all (fun i => bitB s i == bitB d i) = true := by
  rw [List.range_succ, List.all_append, h]
  simp [e]

end Go.Proofs.YtjafjapnmffohaaDoor

namespace Go.Proofs.YtjafjapnmffohaaDoor
open Go.RowKit
set_option linter.unusedVariables false

/-- eight numbers by value -/
def wordsV (ws : List Int) : Value := .agg (cellsN ws).toArray
def zero8 : List Int := [0, 0, 0, 0, 0, 0, 0, 0]
def wordsL (s : List Int) : List Int := (List.range 8).map fun i => num2 s (2 * i)
theorem wordsL_length (s : List Int) : (wordsL s).length = 8 := by simp [wordsL]
theorem wordsL_getD (s : List Int) (k : Nat) (h : k < 8) : (wordsL s).getD k 0 = num2 s (2 * k) := by
  simp [wordsL, List.getD, h]
theorem words_size : (Tryd.prog.info? 47).map (·.size) = some 8 := by kernel_rfl
theorem BlkN.setRow {w : World} {t : TypeId} {g : Nat} {ys : List Int} (h : BlkN w t g ys) (zs : List Int) : BlkN (w.setRow g (cellsN zs).toArray) t g zs := setRow_heap w g _ _ t _ h

theorem wpList_load_words {ops : Array Oper} {rest : List Oper} {o : Oper} {a : Act} {w : World} {Q : Exit → Act → World → Prop} (hgd : o.guard = none) (x : Operand) (ho : o.op = .load 47 x)
    (g : Nat) (hx : a.eval x = .pointer (some ⟨g, 0, none⟩)) (t : TypeId) (s : List Int) (h : BlkN w t g s) (hs : s.length = 8)
    (hk : wpList Tryd.prog ops Q rest (a.put o.dst (.agg (cellsN s).toArray)) w) : wpList Tryd.prog ops Q (o :: rest) a w :=
  wpList_load_row hgd 47 x ho g hx t (cellsN s).toArray (0, 0) _ h Tryd.underlying47 rfl (by rw [words_size]; simp [cellsN_length, hs]) hk
theorem wpList_store_words {ops : Array Oper} {rest : List Oper} {o : Oper} {a : Act} {w : World} {Q : Exit → Act → World → Prop} (hgd : o.guard = none) (x y : Operand) (ho : o.op = .store 47 x y)
    (g : Nat) (hx : a.eval x = .pointer (some ⟨g, 0, none⟩)) (s : List Int) (hy : a.eval y = .agg (cellsN s).toArray) (t : TypeId) (old : List Int) (h : BlkN w t g old) (ho8 : old.length = 8) (hs : s.length = 8)
    (hk : ∀ w', BlkN w' t g s → Below g w w' → w'.heap.size = w.heap.size → wpList Tryd.prog ops Q rest (a.put o.dst undef) w') : wpList Tryd.prog ops Q (o :: rest) a w :=
  wpList_store_row hgd 47 x y ho g _ hx hy t _ h (by rw [words_size]; simp [cellsN_length, hs]) (by simp [cellsN_length, ho8, hs])
    (by rw [Array.all_eq_true_iff_forall_mem]; intro v hv; exact cellsN_one s v (by simpa using hv)) (hk _ (h.setRow s) (low_setRow _ _ _ (Nat.le_refl _)) (by simp))
theorem words_get (s t : List Int) (k : Nat) (hs : s.length = 8) (ht : t.length = 8) (hk : k < 8) : ∃ y, (cellsN (t.take k ++ s.drop k))[k]? = some (.int .i64 y) := by
  rw [cellsN_get (by simp [hs, ht]; omega)]
  exact ⟨_, rfl⟩
theorem words_set (s t : List Int) (k : Nat) (hs : s.length = 8) (ht : t.length = 8) (hk : k < 8) : (t.take k ++ s.drop k).set k (t.getD k 0) = t.take (k + 1) ++ s.drop (k + 1) := by
  rw [List.set_append_right _ _ (by simp [ht]; omega), drop_at s k (by omega)]
  simp only [List.length_take, ht, Nat.min_eq_left (Nat.le_of_lt hk), Nat.sub_self, List.set_cons_zero]
  rw [List.take_succ_eq_append_getElem (show k < t.length by omega), List.append_assoc, show t.getD k 0 = t[k] by simp [List.getD, show k < t.length by omega]]
  rfl
theorem box3 (w : World) (s : List Int) (t1 t2 t3 : TypeId) :
    Blk (((w.alloc (.cells (cellsB s).toArray t1)).alloc (.cells (cellsN zero8).toArray t2)).alloc (.cells (cellsN zero8).toArray t3)) t1 w.heap.size s ∧
    BlkN (((w.alloc (.cells (cellsB s).toArray t1)).alloc (.cells (cellsN zero8).toArray t2)).alloc (.cells (cellsN zero8).toArray t3)) t2 (w.heap.size + 1) zero8 ∧
    BlkN (((w.alloc (.cells (cellsB s).toArray t1)).alloc (.cells (cellsN zero8).toArray t2)).alloc (.cells (cellsN zero8).toArray t3)) t3 (w.heap.size + 1 + 1) zero8 := by
  have h2 := BlkN.new (w.alloc (.cells (cellsB s).toArray t1)) t2 zero8
  have h3 := BlkN.new ((w.alloc (.cells (cellsB s).toArray t1)).alloc (.cells (cellsN zero8).toArray t2)) t3 zero8
  rw [show (w.alloc (.cells (cellsB s).toArray t1)).heap.size = w.heap.size + 1 by simp] at h2
  rw [show ((w.alloc (.cells (cellsB s).toArray t1)).alloc (.cells (cellsN zero8).toArray t2)).heap.size = w.heap.size + 1 + 1 by simp] at h3
  exact ⟨((Blk.new w t1 s).alloc _).alloc _, h2.alloc _, h3⟩
theorem low3 (w : World) (s : List Int) (t1 t2 t3 : TypeId) : Low w (((w.alloc (.cells (cellsB s).toArray t1)).alloc (.cells (cellsN zero8).toArray t2)).alloc (.cells (cellsN zero8).toArray t3)) := ((Low.alloc w _).trans (Low.alloc _ _)).trans (Low.alloc _ _)

set_option maxHeartbeats 1600000 in
set_option maxRecDepth 100000 in
theorem words_any (s : List Int) (w : World) (hs : s.length = 16) (vs : AllB s) :
    Calls Tryd.prog 38 #[addrV s] w fun e w' => e = .returned (wordsV (wordsL s)) ∧ Below w.heap.size w w' := by
  unfold addrV wordsV
  have HS := Lib.hid hs
  clear hs
  obtain ⟨b0, b1, b2⟩ := box3 w s 23 47 47
  have HB0 := Lib.hid b0
  have HB1 := Lib.hid b1
  have HB2 := Lib.hid b2
  clear b0 b1 b2
  have hL := low3 w s 23 47 47
  go_enter Tryd.func38, Tryd.ntmps38
  go_wp2_with fail
  have HW := Lib.hid (wordsL_length s)
  go_loopw [5] (fun i wr => ∃ k : Nat, k ≤ 8 ∧ i = .int .i64 k ∧ Hid (Blk wr 23 w.heap.size s) ∧ Hid (BlkN wr 47 (w.heap.size + 1) zero8) ∧ Hid (BlkN wr 47 (w.heap.size + 1 + 1) ((wordsL s).take k ++ zero8.drop k)) ∧ Below w.heap.size w wr) (fun i _ => 8 - (intOf i).toNat)
  case atStart => exact ⟨0, Nat.zero_le _, rfl, HB0, HB1, HB2, hL⟩
  case round =>
    clear HB0 HB1 HB2 hL
    obtain ⟨k, hk, rfl, HA, HZ, HR, hB⟩ := hrel
    by_cases hlt : k < 8
    · have h0 := HA.out.cell (2 * k)
      rw [cellsB_get (by rw [HS.out]; omega)] at h0
      have h1 := HA.out.cell (2 * k + 1)
      rw [cellsB_get (by rw [HS.out]; omega)] at h1
      have h2 := HR.out.cell k
      have h3 := HR.out.frozen k
      obtain ⟨y0, hy0⟩ := words_get zero8 (wordsL s) k rfl HW.out hlt
      rw [hy0] at h2
      clear hy0
      have HX := Lib.hid (words_set zero8 (wordsL s) k rfl HW.out hlt)
      rw [wordsL_getD s k hlt] at HX
      unfold num2 at HX
      have v0 := vs.getD (2 * k)
      have v1 := vs.getD (2 * k + 1)
      generalize s.getD (2 * k) 0 = x at *
      generalize s.getD (2 * k + 1) 0 = y at *
      have HO := Lib.hid (or_i64_8 x y v0.1 v0.2 v1.1 v1.2)
      go_wp2
      have q0 : IntKind.i64.wrap x = x := wraps_i64 _ (by omega) (by omega)
      have r0 : IntKind.i64.wrap y = y := wraps_i64 _ (by omega) (by omega)
      have r1 : IntKind.i64.wrap (x * 256 + y) = x * 256 + y := wraps_i64 _ (by omega) (by omega)
      have q1 : IntKind.i64.wrap (2 * (k : Int)) = 2 * (k : Int) := wraps_i64 _ (by omega) (by omega)
      have q2 : IntKind.i64.wrap (2 * (k : Int) + 1) = 2 * (k : Int) + 1 := wraps_i64 _ (by omega) (by omega)
      have q3 : IntKind.i64.wrap (x * 256) = x * 256 := wraps_i64 _ (by omega) (by omega)
      have q4 : (2 * (k : Int)).toNat = 2 * k := by omega
      have q5 : (2 * (k : Int) + 1).toNat = 2 * k + 1 := by omega
      have q6 : 0 ≤ 2 * (k : Int) := by omega
      have q7 : 2 * (k : Int) < 16 := by omega
      have q8 : 0 ≤ 2 * (k : Int) + 1 := by omega
      have q9 : 2 * (k : Int) + 1 < 16 := by omega
      go_still_tail 15, (by kernel_rfl)
      clear q0 r0 r1 q1 q2 q3 q4 q5 q6 q7 q8 q9
      change wpList _ _ _ _ _ wr.drew
      rw [HO.out]
      have HA2 : Hid (Blk wr.drew 23 w.heap.size s) := HA
      have HZ2 : Hid (BlkN wr.drew 47 (w.heap.size + 1) zero8) := HZ
      have HR2 : Hid (BlkN wr.drew 47 (w.heap.size + 1 + 1) ((wordsL s).take k ++ zero8.drop k)) := HR
      have hB2 : Below w.heap.size w wr.drew := hB.drew
      have c0 : wr.drew.cell? ⟨w.heap.size + 1 + 1, k, none⟩ = some (.int .i64 y0) := h2
      have c1 : wr.drew.frozen? ⟨w.heap.size + 1 + 1, k, none⟩ = false := h3
      clear h0 h1 h2 h3 hB HA HZ HR
      generalize wr.drew = w2 at *
      go_wp2
      go_roundw
      case rel =>
        refine ⟨k + 1, by omega, by go_num, Lib.hid (HA2.out.far (by dsimp only; omega) _), Lib.hid (HZ2.out.far (by dsimp only; omega) _), ?_, hB2.setCell (by dsimp only; omega) _⟩
        rw [← HX.out]
        exact HR2.out.set_ k _
      case measure => simp [intOf]; omega
    · obtain rfl : k = 8 := by omega
      have HT := Lib.hid (show (wordsL s).take 8 ++ zero8.drop 8 = wordsL s by rw [List.take_of_length_le (by rw [HW.out]; omega), List.drop_eq_nil_of_le (by decide), List.append_nil])
      rw [HT.out] at HR
      clear HT
      go_wp2_with (first
        | (with_reducible refine wpList_load_words rfl (.tmp 3) rfl (w.heap.size + 1 + 1) rfl _ (wordsL s) HR.out HW.out ?_)
        | ((with_reducible refine wpList_store_words rfl (.tmp 2) (.tmp 24) rfl (w.heap.size + 1) rfl (wordsL s) rfl _ zero8 HZ.out rfl HW.out ?_); intro w2 HG hb2 hz2))
      refine bodyPost_ret (v := .agg (cellsN (wordsL s)).toArray) (results_cell_row Tryd.results38 _ _ (w.heap.size + 1) _ _ _ _ rfl HG Tryd.underlying47 rfl (by rw [words_size]; simp [cellsN_length, HW.out])) rfl ⟨rfl, hB.trans (hb2.mono (by omega))⟩

set_option maxHeartbeats 1600000 in
set_option maxRecDepth 100000 in
theorem rwords_any (s : List Int) (w : World) (hs : s.length = 16) (vs : AllB s) :
    Calls Tryd.prog 31 #[addrV s] w fun e w' => e = .returned (wordsV (wordsL s)) ∧ Below w.heap.size w w' := by
  unfold addrV wordsV
  have HS := Lib.hid hs
  clear hs
  obtain ⟨b0, b1, b2⟩ := box3 w s 23 47 47
  have HB0 := Lib.hid b0
  have HB1 := Lib.hid b1
  have HB2 := Lib.hid b2
  clear b0 b1 b2
  have hL := low3 w s 23 47 47
  go_enter Tryd.func31, Tryd.ntmps31
  go_wp2_with fail
  have HW := Lib.hid (wordsL_length s)
  go_loopw [4] (fun i wr => ∃ k : Nat, k ≤ 8 ∧ i = .int .i64 k ∧ Hid (Blk wr 23 w.heap.size s) ∧ Hid (BlkN wr 47 (w.heap.size + 1) zero8) ∧ Hid (BlkN wr 47 (w.heap.size + 1 + 1) ((wordsL s).take k ++ zero8.drop k)) ∧ Below w.heap.size w wr) (fun i _ => 8 - (intOf i).toNat)
  case atStart => exact ⟨0, Nat.zero_le _, rfl, HB0, HB1, HB2, hL⟩
  case round =>
    clear HB0 HB1 HB2 hL
    obtain ⟨k, hk, rfl, HA, HZ, HR, hB⟩ := hrel
    by_cases hlt : k < 8
    · have h0 := HA.out.cell (2 * k)
      rw [cellsB_get (by rw [HS.out]; omega)] at h0
      have h1 := HA.out.cell (2 * k + 1)
      rw [cellsB_get (by rw [HS.out]; omega)] at h1
      have h2 := HR.out.cell k
      have h3 := HR.out.frozen k
      obtain ⟨y0, hy0⟩ := words_get zero8 (wordsL s) k rfl HW.out hlt
      rw [hy0] at h2
      clear hy0
      have HX := Lib.hid (words_set zero8 (wordsL s) k rfl HW.out hlt)
      rw [wordsL_getD s k hlt] at HX
      unfold num2 at HX
      have v0 := vs.getD (2 * k)
      have v1 := vs.getD (2 * k + 1)
      generalize s.getD (2 * k) 0 = x at *
      generalize s.getD (2 * k + 1) 0 = y at *
      go_wp2
      have q0 : IntKind.i64.wrap x = x := wraps_i64 _ (by omega) (by omega)
      have r0 : IntKind.i64.wrap y = y := wraps_i64 _ (by omega) (by omega)
      have r1 : IntKind.i64.wrap (x * 256 + y) = x * 256 + y := wraps_i64 _ (by omega) (by omega)
      have q1 : IntKind.i64.wrap (2 * (k : Int)) = 2 * (k : Int) := wraps_i64 _ (by omega) (by omega)
      have q2 : IntKind.i64.wrap (2 * (k : Int) + 1) = 2 * (k : Int) + 1 := wraps_i64 _ (by omega) (by omega)
      have q3 : IntKind.i64.wrap (x * 256) = x * 256 := wraps_i64 _ (by omega) (by omega)
      have q4 : (2 * (k : Int)).toNat = 2 * k := by omega
      have q5 : (2 * (k : Int) + 1).toNat = 2 * k + 1 := by omega
      have q6 : 0 ≤ 2 * (k : Int) := by omega
      have q7 : 2 * (k : Int) < 16 := by omega
      have q8 : 0 ≤ 2 * (k : Int) + 1 := by omega
      have q9 : 2 * (k : Int) + 1 < 16 := by omega
      go_still_tail 15, (by kernel_rfl)
      clear q0 r0 r1 q1 q2 q3 q4 q5 q6 q7 q8 q9
      change wpList _ _ _ _ _ wr.drew
      have HA2 : Hid (Blk wr.drew 23 w.heap.size s) := HA
      have HZ2 : Hid (BlkN wr.drew 47 (w.heap.size + 1) zero8) := HZ
      have HR2 : Hid (BlkN wr.drew 47 (w.heap.size + 1 + 1) ((wordsL s).take k ++ zero8.drop k)) := HR
      have hB2 : Below w.heap.size w wr.drew := hB.drew
      have c0 : wr.drew.cell? ⟨w.heap.size + 1 + 1, k, none⟩ = some (.int .i64 y0) := h2
      have c1 : wr.drew.frozen? ⟨w.heap.size + 1 + 1, k, none⟩ = false := h3
      clear h0 h1 h2 h3 hB HA HZ HR
      generalize wr.drew = w2 at *
      go_wp2
      go_roundw
      case rel =>
        refine ⟨k + 1, by omega, by go_num, Lib.hid (HA2.out.far (by dsimp only; omega) _), Lib.hid (HZ2.out.far (by dsimp only; omega) _), ?_, hB2.setCell (by dsimp only; omega) _⟩
        rw [← HX.out]
        exact HR2.out.set_ k _
      case measure => simp [intOf]; omega
    · obtain rfl : k = 8 := by omega
      have HT := Lib.hid (show (wordsL s).take 8 ++ zero8.drop 8 = wordsL s by rw [List.take_of_length_le (by rw [HW.out]; omega), List.drop_eq_nil_of_le (by decide), List.append_nil])
      rw [HT.out] at HR
      clear HT
      go_wp2_with (first
        | (with_reducible refine wpList_load_words rfl (.tmp 3) rfl (w.heap.size + 1 + 1) rfl _ (wordsL s) HR.out HW.out ?_)
        | ((with_reducible refine wpList_store_words rfl (.tmp 2) (.tmp 24) rfl (w.heap.size + 1) rfl (wordsL s) rfl _ zero8 HZ.out rfl HW.out ?_); intro w2 HG hb2 hz2))
      refine bodyPost_ret (v := .agg (cellsN (wordsL s)).toArray) (results_cell_row Tryd.results31 _ _ (w.heap.size + 1) _ _ _ _ rfl HG Tryd.underlying47 rfl (by rw [words_size]; simp [cellsN_length, HW.out])) rfl ⟨rfl, hB.trans (hb2.mono (by omega))⟩
end Go.Proofs.YtjafjapnmffohaaDoor

namespace Go.Proofs.YtjafjapnmffohaaDoor
open Go.RowKit
set_option linter.unusedVariables false

/-- the byte at place i of the address of numbers -/
def ofAt (xs : List Int) (i : Nat) : Int := if i % 2 = 0 then xs.getD (i / 2) 0 / 256 % 256 else xs.getD (i / 2) 0 % 256
def ofL (xs : List Int) : List Int := (List.range 16).map (ofAt xs)
theorem ofL_length (xs : List Int) : (ofL xs).length = 16 := by simp [ofL]
theorem ofL_getD (xs : List Int) (k : Nat) (h : k < 16) : (ofL xs).getD k 0 = ofAt xs k := by simp [ofL, List.getD, h]
theorem ofL_all (xs : List Int) : AllB (ofL xs) := fun x hx => by
  obtain ⟨i, _, rfl⟩ := List.mem_map.1 hx
  unfold ofAt
  split <;> omega
theorem of_two (xs t : List Int) (k : Nat) (h : k < 8) (ht : t.length = 16) :
    (((ofL xs).take (2 * k) ++ t.drop (2 * k)).set (2 * k) (xs.getD k 0 / 256 % 256)).set (2 * k + 1) (xs.getD k 0 % 256) = (ofL xs).take (2 * (k + 1)) ++ t.drop (2 * (k + 1)) := by
  have e0 : xs.getD k 0 / 256 % 256 = (ofL xs).getD (2 * k) 0 := by rw [ofL_getD xs _ (by omega)]; unfold ofAt; rw [if_pos (by omega), show 2 * k / 2 = k by omega]
  have e1 : xs.getD k 0 % 256 = (ofL xs).getD (2 * k + 1) 0 := by rw [ofL_getD xs _ (by omega)]; unfold ofAt; rw [if_neg (by omega), show (2 * k + 1) / 2 = k by omega]
  rw [e0, e1, pref_set t (ofL xs) (2 * k) ht (ofL_length xs) (by omega), pref_set t (ofL xs) (2 * k + 1) ht (ofL_length xs) (by omega)]
  rfl
theorem of_end (xs : List Int) (m : Nat) (h : m = min xs.length 8) : (ofL xs).take (2 * m) ++ zero16.drop (2 * m) = ofL xs := by
  have hz : zero16.drop (2 * m) = (ofL xs).drop (2 * m) := by
    apply List.ext_getElem?
    intro i
    simp only [List.getElem?_drop]
    by_cases hi : 2 * m + i < 16
    · have h1 : (ofL xs)[2 * m + i]? = some (ofAt xs (2 * m + i)) := by simp [ofL, hi]
      have h2 : ofAt xs (2 * m + i) = 0 := by
        have : xs.getD ((2 * m + i) / 2) 0 = 0 := by simp [List.getD, List.getElem?_eq_none (show xs.length ≤ (2 * m + i) / 2 by omega)]
        unfold ofAt; rw [this]; simp
      have h3 : ∀ j : Fin 16, zero16[j.val]? = some 0 := by decide
      rw [h1, h2, h3 ⟨2 * m + i, hi⟩]
    · rw [List.getElem?_eq_none (by show (16 : Nat) ≤ _; omega), List.getElem?_eq_none (by rw [ofL_length]; omega)]
  rw [hz, List.take_append_drop]
theorem cell_far {w : World} {p a : Addr} {x : Value} (h : w.cell? a = some x) (hb : p.block ≠ a.block) (v : Value) : (w.setCell p v).cell? a = some x := by
  rw [← h]
  simp [World.setCell, World.cell?, Array.getElem?_modify, hb]
theorem two_zero16 (w : World) (t : TypeId) : Blk ((w.alloc (.cells (cellsB zero16).toArray t)).alloc (.cells (cellsB zero16).toArray t)) t w.heap.size zero16 ∧ Blk ((w.alloc (.cells (cellsB zero16).toArray t)).alloc (.cells (cellsB zero16).toArray t)) t (w.heap.size + 1) zero16 := ⟨box_first w _ _ _ _, box_second w _ _ _ _⟩

end Go.Proofs.YtjafjapnmffohaaDoor

namespace Go.Proofs.YtjafjapnmffohaaDoor
open Go.RowKit
set_option linter.unusedVariables false

/-- where the longest row begins, how long it is, and how long the one at hand is, behind k numbers; 'z i': is number i 0? -/
def lrN (z : Nat → Bool) : Nat → Nat × Nat × Nat
  | 0 => (0, 0, 0)
  | k + 1 => if z k then (if (lrN z k).2.1 < (lrN z k).2.2 + 1 then (k + 1 - ((lrN z k).2.2 + 1), (lrN z k).2.2 + 1, (lrN z k).2.2 + 1) else ((lrN z k).1, (lrN z k).2.1, (lrN z k).2.2 + 1)) else ((lrN z k).1, (lrN z k).2.1, 0)
theorem lrN_le (z : Nat → Bool) (k : Nat) : (lrN z k).1 ≤ k ∧ (lrN z k).2.1 ≤ k ∧ (lrN z k).2.2 ≤ k ∧ (lrN z k).1 + (lrN z k).2.1 ≤ k := by
  induction k with
  | zero => simp [lrN]
  | succ k ih =>
    unfold lrN
    split
    · split <;> (dsimp only; omega)
    · dsimp only; omega
theorem lr_grow {z : Nat → Bool} {k : Nat} (hz : z k = true) (h : (lrN z k).2.1 < (lrN z k).2.2 + 1) : lrN z (k + 1) = (k + 1 - ((lrN z k).2.2 + 1), (lrN z k).2.2 + 1, (lrN z k).2.2 + 1) := by rw [lrN, if_pos hz, if_pos h]
theorem lr_more {z : Nat → Bool} {k : Nat} (hz : z k = true) (h : ¬ (lrN z k).2.1 < (lrN z k).2.2 + 1) : lrN z (k + 1) = ((lrN z k).1, (lrN z k).2.1, (lrN z k).2.2 + 1) := by rw [lrN, if_pos hz, if_neg h]
theorem lr_none {z : Nat → Bool} {k : Nat} (hz : z k = false) : lrN z (k + 1) = ((lrN z k).1, (lrN z k).2.1, 0) := by rw [lrN, if_neg (by rw [hz]; decide)]
theorem index_words (ws : List Int) (k : Nat) (hs : ws.length = 8) (hk : k < 8) (u : World) :
    (Instr.index 47 (.agg (cellsN ws).toArray) (.int .i64 k)).run Tryd.prog u = .ok (.int .i64 (ws.getD k 0)) u := by
  obtain ⟨i, hi, hz⟩ := info_sized (show (Tryd.prog.info? 3).map (·.size) = some 1 by kernel_rfl)
  have hx : (cellsN ws)[k]? = some (.int .i64 (ws.getD k 0)) := cellsN_get (by rw [hs]; exact hk)
  have h2 : ¬ 8 ≤ k := by omega
  simp [Instr.index, run_underlying Tryd.underlying47, part, isAgg, run_underlying Tryd.underlying3, sizeOf, typeInfo, hi, hz, hx, h2, asIntOf]
def isZ (ws : List Int) (i : Nat) : Bool := ws.getD i 0 == 0

set_option maxHeartbeats 1600000 in
set_option maxRecDepth 100000 in
theorem longest_any (ws : List Int) (w : World) (hs : ws.length = 8) :
    Calls Tryd.prog 39 #[wordsV ws] w fun e w' => e = .returned (.tuple #[.int .i64 ((lrN (isZ ws) 8).1 : Nat), .int .i64 ((lrN (isZ ws) 8).2.1 : Nat)]) ∧ Below w.heap.size w w' := by
  unfold wordsV
  have HS := Lib.hid hs
  clear hs
  have HB0 := Lib.hid (BlkN.new w 47 ws)
  have hL := Low.alloc w (.cells (cellsN ws).toArray 47)
  go_enter Tryd.func39, Tryd.ntmps39
  go_wp2_with (with_reducible refine wpList_load_words rfl (.tmp 1) rfl w.heap.size rfl _ ws HB0.out HS.out ?_)
  clear HB0
  go_loop [2, 3, 4, 8] (fun a s r i => ∃ k : Nat, k ≤ 8 ∧ i = .int .i64 k ∧ a = .int .i64 ((lrN (isZ ws) k).1 : Nat) ∧ s = .int .i64 ((lrN (isZ ws) k).2.1 : Nat) ∧ r = .int .i64 ((lrN (isZ ws) k).2.2 : Nat)) (fun _ _ _ i => 8 - (intOf i).toNat)
  case atStart => exact ⟨0, Nat.zero_le _, rfl, rfl, rfl, rfl⟩
  case round =>
    obtain ⟨k, hk, rfl, rfl, rfl, rfl⟩ := hrel
    by_cases hlt : k < 8
    · have hle := lrN_le (isZ ws) k
      have HN1 := Lib.hid (lr_grow (z := isZ ws) (k := k))
      have HN2 := Lib.hid (lr_more (z := isZ ws) (k := k))
      have HN3 := Lib.hid (lr_none (z := isZ ws) (k := k))
      have HZ : Hid (isZ ws k = (ws.getD k 0 == 0)) := rfl
      have HIX := Lib.hid (index_words ws k HS.out hlt)
      generalize (lrN (isZ ws) k).1 = a at *
      generalize (lrN (isZ ws) k).2.1 = s at *
      generalize (lrN (isZ ws) k).2.2 = r at *
      generalize ws.getD k 0 = x at *
      have hix := HIX.out
      by_cases h0 : x = 0
      · have HZ1 := Lib.hid (HZ.out.trans (show (x == 0) = true by simpa using h0))
        subst h0
        by_cases h1 : s < r + 1
        · have HN := Lib.hid (HN1.out HZ1.out h1)
          clear HN1 HN2 HN3 HZ HZ1
          go_wp2
          go_round
          case rel => exact ⟨k + 1, by omega, by go_num, by rw [HN.out]; go_num, by rw [HN.out]; go_num, by rw [HN.out]; go_num⟩
          case measure => simp [intOf]; omega
        · have HN := Lib.hid (HN2.out HZ1.out h1)
          clear HN1 HN2 HN3 HZ HZ1
          go_wp2
          go_round
          case rel => exact ⟨k + 1, by omega, by go_num, by rw [HN.out], by rw [HN.out], by rw [HN.out]; go_num⟩
          case measure => simp [intOf]; omega
      · have HZ1 := Lib.hid (HZ.out.trans (show (x == 0) = false by simpa using h0))
        have HN := Lib.hid (HN3.out HZ1.out)
        clear HN1 HN2 HN3 HZ HZ1
        have h0' : (x == 0) = false := by simpa using h0
        have h0'' : (x != 0) = true := by simpa using h0
        go_wp2
        go_round
        case rel => exact ⟨k + 1, by omega, by go_num, by rw [HN.out], by rw [HN.out], by rw [HN.out]; rfl⟩
        case measure => simp [intOf]; omega
    · obtain rfl : k = 8 := by omega
      go_wp2
      go_ret2
      exact ⟨rfl, hL⟩

/-- how many numbers 0 stand from a place on -/
def zrF (z : Nat → Bool) : Nat → Nat → Nat
  | 0, _ => 0
  | f + 1, a => if z a then 1 + zrF z f (a + 1) else 0
def zrN (z : Nat → Bool) (a : Nat) : Nat := zrF z (8 - a) a
theorem zr_end (z : Nat → Bool) : zrN z 8 = 0 := rfl
theorem zr_more {z : Nat → Bool} {a : Nat} (ha : a < 8) (h : z a = true) : zrN z a = 1 + zrN z (a + 1) := by
  unfold zrN
  rw [show 8 - a = 8 - (a + 1) + 1 by omega, zrF, if_pos h]
theorem zr_none {z : Nat → Bool} {a : Nat} (ha : a < 8) (h : z a = false) : zrN z a = 0 := by
  unfold zrN
  rw [show 8 - a = 8 - (a + 1) + 1 by omega, zrF, if_neg (by rw [h]; decide)]
theorem zrN_le (z : Nat → Bool) (a : Nat) : zrN z a ≤ 8 - a := by
  unfold zrN
  generalize 8 - a = f
  induction f generalizing a with
  | zero => simp [zrF]
  | succ f ih =>
    rw [zrF]
    split
    · have := ih (a + 1); omega
    · omega

set_option maxHeartbeats 1600000 in
set_option maxRecDepth 100000 in
theorem zrun_any (ws : List Int) (a : Nat) (w : World) (hs : ws.length = 8) (ha : a ≤ 8) :
    Calls Tryd.prog 32 #[wordsV ws, .int .i64 a] w fun e w' => e = .returned (.int .i64 (zrN (isZ ws) a : Nat)) ∧ Below w.heap.size w w' := by
  unfold wordsV
  have HS := Lib.hid hs
  clear hs
  have HB0 := Lib.hid (BlkN.new w 47 ws)
  have hL := Low.alloc w (.cells (cellsN ws).toArray 47)
  go_enter Tryd.func32, Tryd.ntmps32
  go_wp2_with fail
  go_loop [5] (fun i => ∃ k : Nat, a + k ≤ 8 ∧ i = .int .i64 k ∧ Hid (zrN (isZ ws) a = k + zrN (isZ ws) (a + k))) (fun i => 8 - (intOf i).toNat)
  case atStart => exact ⟨0, ha, rfl, Lib.hid (by simp)⟩
  case round =>
    obtain ⟨k, hk, rfl, HE⟩ := hrel
    by_cases hlt : a + k < 8
    · have hlt' : (a : Int) + k < 8 := by omega
      have h0 := HB0.out.cell (a + k)
      rw [cellsN_get (by rw [HS.out]; omega)] at h0
      have HM := Lib.hid (zr_more (z := isZ ws) hlt)
      have HN := Lib.hid (zr_none (z := isZ ws) hlt)
      have HZ : Hid (isZ ws (a + k) = (ws.getD (a + k) 0 == 0)) := rfl
      generalize ws.getD (a + k) 0 = x at *
      by_cases hx : x = 0
      · have HE2 := Lib.hid (show zrN (isZ ws) a = (k + 1) + zrN (isZ ws) (a + (k + 1)) by rw [HE.out, HM.out (HZ.out.trans (by simpa using hx)), ← Nat.add_assoc a]; omega)
        clear HE HM HN HZ
        subst hx
        go_wp2
        go_round
        case rel => exact ⟨k + 1, by omega, by go_num, HE2⟩
        case measure => simp [intOf]; omega
      · have HE2 := Lib.hid (show zrN (isZ ws) a = k by rw [HE.out, HN.out (HZ.out.trans (by simpa using hx))]; omega)
        clear HE HM HN HZ
        have h0' : (x == 0) = false := by simpa using hx
        go_wp2
        go_ret
        exact ⟨ret_i (by rw [HE2.out]), hL⟩
    · have hge : ¬ (a : Int) + k < 8 := by omega
      have HE2 := Lib.hid (show zrN (isZ ws) a = k by rw [HE.out, show a + k = 8 by omega, zr_end]; omega)
      go_wp2
      go_ret
      exact ⟨ret_i (by rw [HE2.out]), hL⟩
end Go.Proofs.YtjafjapnmffohaaDoor
