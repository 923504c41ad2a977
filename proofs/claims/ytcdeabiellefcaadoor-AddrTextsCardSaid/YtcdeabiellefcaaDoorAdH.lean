/- What addr.spell tells of up to eight numbers. Conditions: each is from 0 to 65535; the library's tables hold what its text lays. -/
import Derived.Test.YtcdeabiellefcaaDoorFmB
import Derived.Test.YtcdeabiellefcaaDoorShelf
namespace Go.Proofs.YtcdeabiellefcaaDoor
open Go.RowKit
set_option linter.unusedVariables false

/-- block g is just these values -/
def BlkV (w : World) (t : TypeId) (g : Nat) (vs : List Value) : Prop := w.heap[g]? = some (.cells vs.toArray t (0, 0))
section
variable {w w' : World} {t : TypeId} {g B : Nat} {vs : List Value}
theorem BlkV.lt (h : BlkV w t g vs) : g < w.heap.size := (Array.getElem?_eq_some_iff.1 h).1
theorem BlkV.cell (h : BlkV w t g vs) (i : Nat) : w.cell? ⟨g, i, none⟩ = vs[i]? := by
  rw [cell_of_row w g i _ t (0, 0) h]; simp
theorem BlkV.frozen (h : BlkV w t g vs) (i : Nat) : w.frozen? ⟨g, i, none⟩ = false := by
  unfold BlkV at h
  simp [World.frozen?, h]
theorem BlkV.new (w : World) (t : TypeId) (vs : List Value) : BlkV (w.alloc (.cells vs.toArray t)) t w.heap.size vs := heap_alloc_new w _
theorem BlkV.below (h : BlkV w t g vs) (hb : Below B w w') (hg : g < B) : BlkV w' t g vs := (hb.block g hg).trans h
theorem BlkV.set_ (h : BlkV w t g vs) (i : Nat) (u : Value) : BlkV (w.setCell ⟨g, i, none⟩ u) t g (vs.set i u) := by
  unfold BlkV at h ⊢
  simp [World.setCell, Array.getElem?_modify, h]
end

def strL (l : List UInt8) : ByteArray := ⟨l.toArray⟩
def spellL (xs : List Int) : List UInt8 := Lib.join (xs.map fun x => hexL x.toNat) [58]
theorem hexF_length (f n : Nat) : (hexF f n).length ≤ f := by
  induction f generalizing n with
  | zero => simp [hexF]
  | succ f ih =>
    rw [hexF]
    split
    · simp
    · have := ih (n / 16); simp; omega
theorem hexL_length (n : Nat) : (hexL n).length ≤ 5 := hexF_length 5 n
theorem join_cons2 (x y : List UInt8) (r : List (List UInt8)) (sep : List UInt8) : Lib.join (x :: y :: r) sep = x ++ sep ++ Lib.join (y :: r) sep := by
  simp [Lib.join, List.intercalate]
theorem join_one (x sep : List UInt8) : Lib.join [x] sep = x := by simp [Lib.join, List.intercalate]
theorem join_length (l : List (List UInt8)) (h : ∀ x ∈ l, x.length ≤ 5) : (Lib.join l [58]).length ≤ 6 * l.length := by
  induction l with
  | nil => simp [Lib.join, List.intercalate]
  | cons x r ih =>
    cases r with
    | nil => rw [join_one]; have := h x (by simp); simp; omega
    | cons y r =>
      rw [join_cons2]
      have h1 := h x (by simp)
      have h2 := ih (fun z hz => h z (by simp [hz]))
      simp only [List.length_append, List.length_cons, List.length_nil] at h2 ⊢
      omega
theorem spellL_length (xs : List Int) : (spellL xs).length ≤ 6 * xs.length := by
  have := join_length (xs.map fun x => hexL x.toNat) (fun y hy => by obtain ⟨x, _, rfl⟩ := List.mem_map.1 hy; exact hexL_length _)
  simpa [spellL] using this

/-- the row in the making -/
def rowS (xs : List Int) (n k : Nat) : List Value := ((xs.take k).map fun x => Value.string (strL (hexL x.toNat))) ++ List.replicate (n - k) (.string ⟨#[]⟩)
theorem rowS_at (xs : List Int) (n k : Nat) (hn : xs.length = n) (h : k < n) : (rowS xs n k)[k]? = some (.string ⟨#[]⟩) := by
  unfold rowS
  rw [List.getElem?_append_right (by simp; omega)]
  simp only [List.length_map, List.length_take, hn, Nat.min_eq_left (Nat.le_of_lt h), Nat.sub_self]
  rw [List.getElem?_replicate, if_pos (by omega)]
theorem rowS_set (xs : List Int) (n k : Nat) (hn : xs.length = n) (h : k < n) : (rowS xs n k).set k (.string (strL (hexL (xs.getD k 0).toNat))) = rowS xs n (k + 1) := by
  unfold rowS
  rw [List.set_append_right _ _ (by simp; omega), List.take_succ_eq_append_getElem (show k < xs.length by omega)]
  simp only [List.length_map, List.length_take, Nat.min_eq_left (show k ≤ xs.length by omega), Nat.sub_self, List.map_append, List.map_cons, List.map_nil, List.append_assoc]
  rw [show n - k = (n - (k + 1)) + 1 by omega, List.replicate_succ, List.set_cons_zero]
  simp [List.getD, show k < xs.length by omega]
theorem rowS_end (xs : List Int) (n : Nat) (hn : xs.length = n) (j : Nat) (x : ByteArray) (h : (xs.map fun x => strL (hexL x.toNat))[j]? = some x) : (rowS xs n n)[j]? = some (.string x) := by
  unfold rowS
  rw [List.take_of_length_le (by omega), Nat.sub_self, List.replicate_zero, List.append_nil]
  simp only [List.getElem?_map] at h ⊢
  cases hq : xs[j]? with
  | none => simp [hq] at h
  | some y => simp [hq] at h ⊢; exact h
theorem rowS_start (xs : List Int) (n : Nat) : rowS xs n 0 = List.replicate n (.string ⟨#[]⟩) := by simp [rowS]
theorem made_rep (z : Value) (n : Nat) : madeCells #[z] n = (List.replicate n z).toArray := by
  apply Array.ext
  · simp [madeCells]
  · intro i h1 h2
    simp [madeCells, Nat.mod_one]

theorem fmt16_int (x : Int) (w : World) (h0 : 0 ≤ x) (h1 : x < 65536) (h : Libs w) :
    Calls Tryd.prog 31 #[.int .i64 x, .int .i64 16] w fun e w' => e = .returned (.string (strL (hexL x.toNat))) ∧ Below w.heap.size w w' := by
  obtain ⟨u, rfl⟩ : ∃ u : Nat, x = u := ⟨x.toNat, by omega⟩
  exact fmt16_any u w (by omega) h
theorem info_str : (Tryd.prog.info? 9).map (fun i => (i.zero, i.size, i.bytes)) = some (some (.string ⟨#[]⟩), 1, 16) := by kernel_rfl
theorem make_strs (n : Nat) (hn : n ≤ 8) (u : World) : (Instr.makeSlice 53 (.int .i64 (n : Int)) (.int .i64 (n : Int))).run Tryd.prog u =
      .ok (.slice (some ⟨u.heap.size, 0, none⟩) n n) (u.alloc (.cells (List.replicate n (.string ⟨#[]⟩)).toArray 9)) := by
  obtain ⟨i0, hi, hz0, hz1, hz2⟩ : ∃ i, Tryd.prog.info? 9 = some i ∧ i.zero = some (.string ⟨#[]⟩) ∧ i.size = 1 ∧ i.bytes = 16 := by
    have h := info_str
    cases hq : Tryd.prog.info? 9 with
    | none => simp [hq] at h
    | some i => simp [hq] at h; exact ⟨i, rfl, h⟩
  have h := run_make (P := Tryd.prog) u 53 9 i0 (.string ⟨#[]⟩) Tryd.underlying53 hi hz0 .i64 .i64 (n : Int) (n : Int) (by omega) (Int.le_refl _) (by rw [hz2]; omega) (by omega)
  simp only [hz1, Value.cells, made_rep] at h
  simpa using h

set_option maxHeartbeats 1600000 in
theorem spell_any (A : Option Addr) (n c : Nat) (xs : List Int) (w : World) (hn : n ≤ 8) (hb : Ns w w.heap.size A n xs) (hv : ∀ i, 0 ≤ xs.getD i 0 ∧ xs.getD i 0 < 65536) (h : Libs w) :
    Calls Tryd.prog 22 #[.slice A n c] w fun e w' => e = .returned (.string (strL (spellL xs))) ∧ Below w.heap.size w w' := by
  have HL := Lib.hid h
  have HN := Lib.hid hb.len
  have HV := Lib.hid hv
  clear h hv
  have hmk := make_strs n hn
  go_enter Tryd.func22, Tryd.ntmps22
  go_wp2_with fail
  go_loopw [11] (fun i wr => ∃ k : Nat, k ≤ n ∧ i = .int .i64 k ∧ Hid (BlkV wr 9 w.heap.size (rowS xs n k)) ∧ Below w.heap.size w wr) (fun i _ => n - (intOf i).toNat)
  case atStart => exact ⟨0, Nat.zero_le _, rfl, by rw [rowS_start]; exact BlkV.new w _ _, Low.alloc w _⟩
  case round =>
    obtain ⟨k, hk, rfl, HK, hB⟩ := hrel
    by_cases hlt : k < n
    · obtain ⟨b, o, rfl, hbw, hcell⟩ := hb.mem (by omega)
      have h0 := hcell k hlt
      rw [← hB.cell (p := ⟨b, o + k, none⟩) hbw] at h0
      clear hcell
      have HX := Lib.hid (rowS_set xs n k HN.out hlt)
      have hv := HV.out k
      generalize xs.getD k 0 = x at *
      clear hmk
      go_wp2_with fail
      refine (fmt16_int x wr hv.1 hv.2 (HL.out.low hB)).mono ?_
      rintro e w1 ⟨rfl, hl⟩
      replace HK := Lib.hid (HK.out.below hl HK.out.lt)
      replace hB := hB.trans (hl.mono hB.size)
      have h1 := HK.out.cell k
      rw [rowS_at xs n k HN.out hlt] at h1
      have h2 := HK.out.frozen k
      clear hl h0
      go_wp2
      go_roundw
      case rel =>
        refine ⟨k + 1, by omega, by go_num, ?_, hB.setCell (Nat.le_refl _) _⟩
        rw [← HX.out]
        exact HK.out.set_ k _
      case measure => simp [intOf]; omega
    · obtain rfl : k = n := by omega
      go_wp2_with fail
      have hj := Tryd.strings_Join w.heap.size 0 k (xs.map fun x => strL (hexL x.toNat)) ⟨#[58]⟩ wr
        (fun j x hx => by rw [Nat.zero_add, HK.out.cell j]; exact rowS_end xs k HN.out j x hx) HK.out.lt (by rw [List.length_map, HN.out]; omega) (by rw [List.length_map, HN.out]; exact Nat.le_refl _)
        (by have := spellL_length xs; rw [HN.out] at this; unfold spellL at this; rw [List.map_map]; refine Nat.le_trans this (by omega))
      rw [List.length_map, HN.out, List.map_map] at hj
      refine hj.mono ?_
      rintro e w1 ⟨rfl, hl⟩
      go_wp2
      go_ret
      exact ⟨rfl, hB.trans (hl.mono hB.size)⟩
end Go.Proofs.YtcdeabiellefcaaDoor
