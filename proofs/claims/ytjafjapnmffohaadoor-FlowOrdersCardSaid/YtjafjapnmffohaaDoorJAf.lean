/- Texts joined.
  What strconv.FormatInt tells at base 16. Conditions: the number is from 0 to 2^62; the library's table of places holds what its text lays.
  What strconv.FormatInt tells at base 16. Conditions: the number is from 0 to 65535; the library's table of places holds what its text lays.
  What addr.spell tells of up to eight numbers. Conditions: each is from 0 to 65535; the library's tables hold what its text lays.
  What addr.Text tells. Conditions: an address is 16 bytes; the library's tables hold what its text lays.
  What addr.digit and addr.readGroup tell of any rune, of any text. No condition.
  What addr.readGroups tells of any text. Conditions: it is shorter than 2^32 - 15 bytes (the model's bound); the library's variables hold what its text lays.
  What slices.Grow and slices.Concat tell, of ints that are eight in all. No other condition.
  What addr.Read tells of any text. Conditions: it is shorter than 2^32 - 15 bytes (the model's bound); the library's variables hold what its text lays.
-/
import Derived.Test.YtjafjapnmffohaaDoorJAd
import Derived.Laws.IdiomStrings
import Derived.Test.YtjafjapnmffohaaDoorShelf
import Derived.Laws.RangeAny
import Derived.Lib.Split
import Derived.Lib.IndexMore
import Derived.Test.YtjafjapnmffohaaDoorJOct
import Derived.Lib.AppendZerosOnto
import Derived.Lib.AppendZeros
set_option maxRecDepth 100000
namespace Go.Proofs.YtjafjapnmffohaaDoor
open Go.RowKit
set_option linter.unusedVariables false

/-- what of the library's variables is read: the table's cell for 16 -/
structure LibT (w : World) : Prop where
  tab : w.cell? ⟨3, 15, none⟩ = some (.int .u8 4)
theorem LibT.low {w w' : World} (h : LibT w) (hb : Below w.heap.size w w') : LibT w' :=
  ⟨(hb.cell (p := ⟨3, 15, none⟩) (block_lt_of_cell h.tab)).trans h.tab⟩
/-- .. and some int -/
structure Libs (w : World) : Prop where
  maxl : ∃ m, w.cell? ⟨1, 0, none⟩ = some (.int .i64 m)
  t : LibT w
theorem Libs.low {w w' : World} (h : Libs w) (hb : Below w.heap.size w w') : Libs w' := by
  obtain ⟨m, hm⟩ := h.maxl
  exact ⟨⟨m, (hb.cell (p := ⟨1, 0, none⟩) (block_lt_of_cell hm)).trans hm⟩, h.t.low hb⟩

set_option maxHeartbeats 400000 in
theorem tz64_16 (w : World) (h : LibT w) :
    Calls Tryd.prog 79 #[.int .u64 16] w fun e w' => e = .returned (.int .i64 4) ∧ w = w' := by
  have ht := h.tab
  have e0 : IntKind.u64.wrap (-16) = 18446744073709551600 := by decide +kernel
  have e1 : bits .and .u64 16 18446744073709551600 = 16 := by decide +kernel
  have e2 : IntKind.u64.wrap 4573923408821661840 = 4573923408821661840 := by decide +kernel
  go_enter Tryd.func79, Tryd.ntmps79
  go_wp2
  go_ret
  exact ⟨rfl, rfl⟩

set_option maxHeartbeats 400000 in
theorem tz_16 (w : World) (h : LibT w) :
    Calls Tryd.prog 74 #[.int .u64 16] w fun e w' => e = .returned (.int .i64 4) ∧ w = w' := by
  go_enter Tryd.func74, Tryd.ntmps74
  go_wp2_with fail
  refine (tz64_16 w h).mono ?_
  rintro e w' ⟨rfl, rfl⟩
  go_wp2
  go_ret
  exact ⟨rfl, rfl⟩

set_option maxHeartbeats 400000 in
theorem pow2_16 (w : World) :
    Calls Tryd.prog 73 #[.int .i64 16] w fun e w' => e = .returned (.bool true) ∧ w = w' := by
  go_enter Tryd.func73, Tryd.ntmps73
  go_wp2
  go_ret
  exact ⟨rfl, rfl⟩
end Go.Proofs.YtjafjapnmffohaaDoor

namespace Go.Proofs.YtjafjapnmffohaaDoor
open Go.RowKit
set_option linter.unusedVariables false

/-- a hexadecimal digit's letter -/
def hexD (n : Nat) : UInt8 := if n < 10 then UInt8.ofNat (48 + n) else UInt8.ofNat (87 + n)
/-- a number's letters -/
def hexF : Nat → Nat → List UInt8
  | 0, _ => []
  | f + 1, n => if n < 16 then [hexD n] else hexF f (n / 16) ++ [hexD (n % 16)]
def hexL (n : Nat) : List UInt8 := hexF 5 n
def nums (l : List UInt8) : List Int := l.map fun b => (b.toNat : Int)
theorem hexF_fuel (f : Nat) : ∀ g n, n < 16 ^ f → n < 16 ^ g → 0 < f → 0 < g → hexF f n = hexF g n := by
  induction f with
  | zero => intro g n _ _ h; omega
  | succ f ih =>
    intro g n hf hg _ hg0
    cases g with
    | zero => omega
    | succ g =>
      unfold hexF
      split
      · rfl
      · rename_i h16
        have hf0 : 0 < f := by
          cases f with
          | zero => simp at hf; omega
          | succ _ => omega
        have hg1 : 0 < g := by
          cases g with
          | zero => simp at hg; omega
          | succ _ => omega
        rw [ih g (n / 16) (by rw [Nat.pow_succ] at hf; omega) (by rw [Nat.pow_succ] at hg; omega) hf0 hg1]
theorem hexL_small (n : Nat) (h : n < 16) : hexL n = [hexD n] := by unfold hexL hexF; rw [if_pos h]
theorem hexL_more (n : Nat) (h : 16 ≤ n) (h2 : n < 65536) : hexL n = hexL (n / 16) ++ [hexD (n % 16)] := by
  have e : hexL n = hexF 4 (n / 16) ++ [hexD (n % 16)] := by
    show hexF 5 n = _
    rw [hexF, if_neg (by omega)]
  rw [e]
  unfold hexL
  rw [hexF_fuel 4 5 (n / 16) (by omega) (by omega) (by omega) (by omega)]

/-- one step of the loop -/
def FmRel (w : World) (u : Nat) (su si : Value) (wr : World) : Prop :=
  ∃ (x j : Nat) (tail : List UInt8), su = .int .u64 x ∧ si = .int .i64 (j + 1 : Nat) ∧ ((j = 64 ∧ x < 65536) ∨ (j = 63 ∧ x < 4096) ∨ (j = 62 ∧ x < 256) ∨ (j = 61 ∧ x < 16)) ∧ j + tail.length = 64 ∧
    hexL u = hexL x ++ tail ∧ Blk wr 100 w.heap.size (List.replicate (j + 1) 0 ++ nums tail) ∧ Below w.heap.size w wr
theorem u64_and15 (x : Nat) (h : x < 65536) : bits .and .u64 (x : Int) 15 = ((x % 16 : Nat) : Int) := by
  have h : (BitVec.ofInt 64 (x : Int) &&& BitVec.ofInt 64 15).toNat = x % 16 := by
    rw [BitVec.toNat_and, BitVec.toNat_ofInt, show (BitVec.ofInt 64 15).toNat = 2 ^ 4 - 1 by decide, Nat.and_two_pow_sub_one_eq_mod]
    omega
  show IntKind.u64.wrap ((BitVec.ofInt 64 (x : Int) &&& BitVec.ofInt 64 15).toNat : Int) = _
  rw [h, wraps_u64 _ (by omega) (by omega)]
theorem row_at (j : Nat) (l : List UInt8) : (cellsB (List.replicate (j + 1) 0 ++ nums l))[j]? = some (.int .u8 0) := by
  rw [cellsB_get (by simp; omega)]
  congr 2
  simp [List.getD, List.getElem?_append_left]
theorem row_set (j : Nat) (l : List UInt8) (b : UInt8) : (List.replicate (j + 1) (0 : Int) ++ nums l).set j (b.toNat : Int) = List.replicate j 0 ++ nums (b :: l) := by
  rw [List.replicate_succ', List.append_assoc, List.set_append_right _ _ (by simp)]
  simp [nums]

def digs36 : ByteArray := ⟨#[48, 49, 50, 51, 52, 53, 54, 55, 56, 57, 97, 98, 99, 100, 101, 102, 103, 104, 105, 106, 107, 108, 109, 110, 111, 112, 113, 114, 115, 116, 117, 118, 119, 120, 121, 122]⟩
theorem dig_tab36 (i : Nat) (h : i < 16) (h' : i < digs36.size) : digs36[i] = hexD i := by
  have k : ∀ n : Fin 16, digs36[n.val]'(Nat.lt_of_lt_of_le n.isLt (by decide)) = hexD n.val := by decide
  exact k ⟨i, h⟩

theorem run_cut65 (g j : Nat) (hj : j < 65) (u : World) : (Instr.sliceAt 100 (.pointer (some ⟨g, 0, none⟩)) (some (.int .i64 (j : Int))) none none).run Tryd.prog u = .ok (.slice (some ⟨g, j, none⟩) (65 - j) (65 - j)) u := by
  obtain ⟨i, hi, hz⟩ := info_sized size_u8
  rw [run_sliceAt_array_l (P := Tryd.prog) u 100 ⟨g, 0, none⟩ Tryd.underlying100 .i64 j (by omega) (by show (j : Int) ≤ ((65 : Nat) : Int); omega)]
  have hs : (sizeOf (Tryd.prog.elem 100)).run Tryd.prog u = .ok 1 u := by
    show (sizeOf 5).run Tryd.prog u = .ok 1 u
    simp [sizeOf, typeInfo, hi, hz]
  rw [hs, Result.andThen_ok]
  show Result.ok (slicedAt ⟨g, 0, none⟩ (j : Int).toNat 65 65 1) u = _
  unfold slicedAt
  rw [Int.toNat_natCast, if_neg (by omega), Nat.mul_one, Addr.add_lit, Nat.zero_add]

/-- bytes at the end of a row become a string -/
theorem run_str_tail {w : World} {t : TypeId} {g j n : Nat} {l : List UInt8} (h : Blk w t g (List.replicate j 0 ++ nums l)) (hl : l.length = n) :
    (convert 26 9 (.slice (some ⟨g, j, none⟩) n n)).run Tryd.prog w = .ok (.string ⟨l.toArray⟩) w := by
  subst hl
  refine run_convert_bytes_back w 26 9 5 ⟨g, j, none⟩ l.length l Tryd.underlying26 Tryd.underlying5 Tryd.underlying9 fun k hk => ?_
  rw [Addr.add_lit, h.cell (j + k), cellsB_get (by simp [nums]; omega)]
  congr 2
  simp only [List.getD]
  rw [List.getElem?_append_right (by simp)]
  simp [nums, hk]

set_option maxHeartbeats 1600000 in
set_option maxRecDepth 100000 in
theorem bits16_any (u : Nat) (w : World) (hu : u < 65536) (h : LibT w) :
    Calls Tryd.prog 63 #[.slice none 0 0, .int .u64 u, .int .i64 16, .bool false, .bool false] w fun e w' => e = .returned (.tuple #[.slice none 0 0, .string ⟨(hexL u).toArray⟩]) ∧ Below w.heap.size w w' := by
  have HL := Lib.hid h
  clear h
  go_enter Tryd.func63, Tryd.ntmps63
  go_wp2_with ((with_reducible refine wpList_alloc_v rfl 100 rfl (cellsB (List.replicate 65 0)) (by kernel_rfl) ?_); intro w1 HZ hl1 hz1; refine Hid.out ?_)
  refine Lib.hid ?_
  have HZ65 : Hid (Blk w1 100 w.heap.size (List.replicate 65 0)) := Lib.hid HZ
  clear HZ hz1
  go_wp2_with fail
  refine (pow2_16 _).mono ?_
  rintro e w' ⟨rfl, rfl⟩
  go_wp2_with fail
  refine (tz_16 _ (HL.out.low hl1)).mono ?_
  rintro e w' ⟨rfl, rfl⟩
  go_wp2_with fail
  go_loopw [1, 13] (fun a b wr => FmRel w u a b wr) (fun a _ _ => (intOf a).toNat)
  case atStart => exact ⟨u, 64, [], rfl, rfl, by omega, rfl, by simp, HZ65.out, hl1⟩
  case round =>
    obtain ⟨x, j, tail, rfl, rfl, hb, hl, he, hk, hB⟩ := hrel
    have HT := Lib.hid hl
    have HE := Lib.hid he
    have HK := Lib.hid hk
    clear hl he hk
    by_cases hlt : 16 ≤ x
    · have hj : j ≤ 64 ∧ 62 ≤ j := by omega
      have hx : x < 65536 := by omega
      have hand := u64_and15 x hx
      have h0 := HK.out.cell j
      rw [row_at] at h0
      have h1 := HK.out.frozen j
      have hx16 : x % 16 < 16 := by omega
      have HM := Lib.hid (hexL_more x hlt hx)
      have HD := Lib.hid (dig_tab36 (x % 16) hx16 (Nat.lt_of_lt_of_le hx16 (by decide)))
      unfold digs36 at HD
      go_wp2
      go_roundw
      case rel =>
        obtain ⟨i, rfl⟩ : ∃ i, j = i + 1 := ⟨j - 1, by omega⟩
        refine ⟨x / 16, i, hexD (x % 16) :: tail, by go_num, rfl, by omega, by have := HT.out; simp; omega, by rw [HE.out, HM.out]; simp, ?_, hB.setCell (Nat.le_refl _) _⟩
        rw [← row_set, ← HD.out]
        exact HK.out.set_ (i + 1) _
      case measure => simp [intOf]; omega
    · have hx : x < 16 := by omega
      have hj : j ≤ 64 ∧ 61 ≤ j := by omega
      have hge : ¬ (16 : Int) ≤ x := by omega
      have h0 := HK.out.cell j
      rw [row_at] at h0
      have h1 := HK.out.frozen j
      have HD := Lib.hid (dig_tab36 x hx (Nat.lt_of_lt_of_le hx (by decide)))
      unfold digs36 at HD
      have hsl := run_cut65 w.heap.size j (by omega)
      have hd := HD.out
      have hk2 : Blk (wr.setCell ⟨w.heap.size, j, none⟩ (.int .u8 ((hexD x).toNat : Int))) 100 w.heap.size (List.replicate j 0 ++ nums (hexD x :: tail)) := by
        rw [← row_set]
        exact HK.out.set_ j _
      have hcv := run_str_tail (n := 65 - j) hk2 (by have := HT.out; simp; omega)
      have HX := Lib.hid (show hexL u = hexD x :: tail by rw [HE.out, hexL_small x hx]; rfl)
      have HB2 := Lib.hid (hB.setCell (Nat.le_refl _) (p := ⟨w.heap.size, j, none⟩) (.int .u8 ((hexD x).toNat : Int)))
      clear hk2
      go_wp2
      go_ret2
      exact ⟨by rw [HX.out]; rfl, HB2.out⟩

set_option maxHeartbeats 800000 in
theorem ifmt16_any (u : Nat) (w : World) (hu : u < 65536) (h : LibT w) :
    Calls Tryd.prog 46 #[.int .i64 u, .int .i64 16] w fun e w' => e = .returned (.string ⟨(hexL u).toArray⟩) ∧ Below w.heap.size w w' := by
  have h0 : ¬ (u : Int) < 0 := by omega
  go_enter Tryd.func46, Tryd.ntmps46
  go_wp2_with fail
  refine (bits16_any u w hu h).mono ?_
  rintro e w' ⟨rfl, hB⟩
  go_wp2
  go_ret
  exact ⟨rfl, hB⟩

set_option maxHeartbeats 800000 in
theorem fmt16_any (u : Nat) (w : World) (hu : u < 65536) (h : LibT w) :
    Calls Tryd.prog 44 #[.int .i64 u, .int .i64 16] w fun e w' => e = .returned (.string ⟨(hexL u).toArray⟩) ∧ Below w.heap.size w w' := by
  go_enter Tryd.func44, Tryd.ntmps44
  go_wp2_with fail
  refine (ifmt16_any u w hu h).mono ?_
  rintro e w' ⟨rfl, hB⟩
  go_wp2
  go_ret
  exact ⟨rfl, hB⟩
end Go.Proofs.YtjafjapnmffohaaDoor

namespace Go.Proofs.YtjafjapnmffohaaDoor
open Go.RowKit
set_option linter.unusedVariables false

def strL (l : List UInt8) : ByteArray := ⟨l.toArray⟩
def spellL (xs : List Int) : List UInt8 := Lib.join (xs.map fun x => hexL x.toNat) [58]
theorem hexF_length (f n : Nat) : (hexF f n).length ≤ f := by
  induction f generalizing n with
  | zero => simp [hexF]
  | succ f ih =>
    rw [hexF]
    split
    · simp
    · have := ih (n / 16); simp; omega
theorem hexL_length (n : Nat) : (hexL n).length ≤ 5 := hexF_length 5 n
theorem join_cons2 (x y : List UInt8) (r : List (List UInt8)) (sep : List UInt8) : Lib.join (x :: y :: r) sep = x ++ sep ++ Lib.join (y :: r) sep := by
  simp [Lib.join, List.intercalate]
theorem join_one (x sep : List UInt8) : Lib.join [x] sep = x := by simp [Lib.join, List.intercalate]
theorem join_length (l : List (List UInt8)) (h : ∀ x ∈ l, x.length ≤ 5) : (Lib.join l [58]).length ≤ 6 * l.length := by
  induction l with
  | nil => simp [Lib.join, List.intercalate]
  | cons x r ih =>
    cases r with
    | nil => rw [join_one]; have := h x (by simp); simp; omega
    | cons y r =>
      rw [join_cons2]
      have h1 := h x (by simp)
      have h2 := ih (fun z hz => h z (by simp [hz]))
      simp only [List.length_append, List.length_cons, List.length_nil] at h2 ⊢
      omega
theorem spellL_length (xs : List Int) : (spellL xs).length ≤ 6 * xs.length := by
  have := join_length (xs.map fun x => hexL x.toNat) (fun y hy => by obtain ⟨x, _, rfl⟩ := List.mem_map.1 hy; exact hexL_length _)
  simpa [spellL] using this

/-- the row in the making -/
def rowS (xs : List Int) (n k : Nat) : List Value := ((xs.take k).map fun x => Value.string (strL (hexL x.toNat))) ++ List.replicate (n - k) (.string ⟨#[]⟩)
theorem rowS_at (xs : List Int) (n k : Nat) (hn : xs.length = n) (h : k < n) : (rowS xs n k)[k]? = some (.string ⟨#[]⟩) := by
  unfold rowS
  rw [List.getElem?_append_right (by simp; omega)]
  simp only [List.length_map, List.length_take, hn, Nat.min_eq_left (Nat.le_of_lt h), Nat.sub_self]
  rw [List.getElem?_replicate, if_pos (by omega)]
theorem rowS_set (xs : List Int) (n k : Nat) (hn : xs.length = n) (h : k < n) : (rowS xs n k).set k (.string (strL (hexL (xs.getD k 0).toNat))) = rowS xs n (k + 1) := by
  unfold rowS
  rw [List.set_append_right _ _ (by simp; omega), List.take_succ_eq_append_getElem (show k < xs.length by omega)]
  simp only [List.length_map, List.length_take, Nat.min_eq_left (show k ≤ xs.length by omega), Nat.sub_self, List.map_append, List.map_cons, List.map_nil, List.append_assoc]
  rw [show n - k = (n - (k + 1)) + 1 by omega, List.replicate_succ, List.set_cons_zero]
  simp [List.getD, show k < xs.length by omega]
theorem rowS_end (xs : List Int) (n : Nat) (hn : xs.length = n) (j : Nat) (x : ByteArray) (h : (xs.map fun x => strL (hexL x.toNat))[j]? = some x) : (rowS xs n n)[j]? = some (.string x) := by
  unfold rowS
  rw [List.take_of_length_le (by omega), Nat.sub_self, List.replicate_zero, List.append_nil]
  simp only [List.getElem?_map] at h ⊢
  cases hq : xs[j]? with
  | none => simp [hq] at h
  | some y => simp [hq] at h ⊢; exact h
theorem rowS_start (xs : List Int) (n : Nat) : rowS xs n 0 = List.replicate n (.string ⟨#[]⟩) := by simp [rowS]
theorem made_rep (z : Value) (n : Nat) : madeCells #[z] n = (List.replicate n z).toArray := by
  apply Array.ext
  · simp [madeCells]
  · intro i h1 h2
    simp [madeCells, Nat.mod_one]

theorem fmt16_int (x : Int) (w : World) (h0 : 0 ≤ x) (h1 : x < 65536) (h : LibT w) :
    Calls Tryd.prog 44 #[.int .i64 x, .int .i64 16] w fun e w' => e = .returned (.string (strL (hexL x.toNat))) ∧ Below w.heap.size w w' := by
  obtain ⟨u, rfl⟩ : ∃ u : Nat, x = u := ⟨x.toNat, by omega⟩
  exact fmt16_any u w (by omega) h
theorem info_str : (Tryd.prog.info? 9).map (fun i => (i.zero, i.size, i.bytes)) = some (some (.string ⟨#[]⟩), 1, 16) := by kernel_rfl
theorem make_strs (n : Nat) (hn : n ≤ 8) (u : World) : (Instr.makeSlice 63 (.int .i64 (n : Int)) (.int .i64 (n : Int))).run Tryd.prog u =
      .ok (.slice (some ⟨u.heap.size, 0, none⟩) n n) (u.alloc (.cells (List.replicate n (.string ⟨#[]⟩)).toArray 9)) := by
  obtain ⟨i0, hi, hz0, hz1, hz2⟩ : ∃ i, Tryd.prog.info? 9 = some i ∧ i.zero = some (.string ⟨#[]⟩) ∧ i.size = 1 ∧ i.bytes = 16 := by
    have h := info_str
    cases hq : Tryd.prog.info? 9 with
    | none => simp [hq] at h
    | some i => simp [hq] at h; exact ⟨i, rfl, h⟩
  have h := run_make (P := Tryd.prog) u 63 9 i0 (.string ⟨#[]⟩) Tryd.underlying63 hi hz0 .i64 .i64 (n : Int) (n : Int) (by omega) (Int.le_refl _) (by rw [hz2]; omega) (by omega)
  simp only [hz1, Value.cells, made_rep] at h
  simpa using h

set_option maxHeartbeats 1600000 in
theorem spell_any (A : Option Addr) (n c : Nat) (xs : List Int) (w : World) (hn : n ≤ 8) (hb : Ns w w.heap.size A n xs) (hv : ∀ i, 0 ≤ xs.getD i 0 ∧ xs.getD i 0 < 65536) (h : LibT w) :
    Calls Tryd.prog 40 #[.slice A n c] w fun e w' => e = .returned (.string (strL (spellL xs))) ∧ Below w.heap.size w w' := by
  have HL := Lib.hid h
  have HN := Lib.hid hb.len
  have HV := Lib.hid hv
  clear h hv
  have hmk := make_strs n hn
  go_enter Tryd.func40, Tryd.ntmps40
  go_wp2_with fail
  go_loopw [11] (fun i wr => ∃ k : Nat, k ≤ n ∧ i = .int .i64 k ∧ Hid (BlkV wr 9 w.heap.size (rowS xs n k)) ∧ Below w.heap.size w wr) (fun i _ => n - (intOf i).toNat)
  case atStart => exact ⟨0, Nat.zero_le _, rfl, by rw [rowS_start]; exact BlkV.new w _ _, Low.alloc w _⟩
  case round =>
    obtain ⟨k, hk, rfl, HK, hB⟩ := hrel
    by_cases hlt : k < n
    · obtain ⟨b, o, rfl, hbw, hcell⟩ := hb.mem (by omega)
      have h0 := hcell k hlt
      rw [← hB.cell (p := ⟨b, o + k, none⟩) hbw] at h0
      clear hcell
      have HX := Lib.hid (rowS_set xs n k HN.out hlt)
      have hv := HV.out k
      generalize xs.getD k 0 = x at *
      clear hmk
      go_wp2_with fail
      refine (fmt16_int x wr hv.1 hv.2 (HL.out.low hB)).mono ?_
      rintro e w1 ⟨rfl, hl⟩
      replace HK := Lib.hid (HK.out.below hl HK.out.lt)
      replace hB := hB.trans (hl.mono hB.size)
      have h1 := HK.out.cell k
      rw [rowS_at xs n k HN.out hlt] at h1
      have h2 := HK.out.frozen k
      clear hl h0
      go_wp2
      go_roundw
      case rel =>
        refine ⟨k + 1, by omega, by go_num, ?_, hB.setCell (Nat.le_refl _) _⟩
        rw [← HX.out]
        exact HK.out.set_ k _
      case measure => simp [intOf]; omega
    · obtain rfl : k = n := by omega
      go_wp2_with fail
      have hj := Tryd.strings_Join w.heap.size 0 k (xs.map fun x => strL (hexL x.toNat)) ⟨#[58]⟩ wr
        (fun j x hx => by rw [Nat.zero_add, HK.out.cell j]; exact rowS_end xs k HN.out j x hx) HK.out.lt (by rw [List.length_map, HN.out]; omega) (by rw [List.length_map, HN.out]; exact Nat.le_refl _)
        (by have := spellL_length xs; rw [HN.out] at this; unfold spellL at this; rw [List.map_map]; refine Nat.le_trans this (by omega))
      rw [List.length_map, HN.out, List.map_map] at hj
      refine hj.mono ?_
      rintro e w1 ⟨rfl, hl⟩
      go_wp2
      go_ret
      exact ⟨rfl, hB.trans (hl.mono hB.size)⟩
end Go.Proofs.YtjafjapnmffohaaDoor

namespace Go.Proofs.YtjafjapnmffohaaDoor
open Go.RowKit
set_option linter.unusedVariables false

/-- the text of eight numbers, where the longest row is n long and begins at a -/
def textW (ws : List Int) (a n : Nat) : List UInt8 := if n < 2 then spellL ws else spellL (ws.take a) ++ [58, 58] ++ spellL (ws.drop (a + n))
def textL (s : List Int) : List UInt8 := textW (wordsL s) (lrN (isZ (wordsL s)) 8).1 (lrN (isZ (wordsL s)) 8).2.1
theorem words_range {s : List Int} (vs : AllB s) (i : Nat) : 0 ≤ (wordsL s).getD i 0 ∧ (wordsL s).getD i 0 < 65536 := by
  rcases Nat.lt_or_ge i 8 with h | h
  · rw [wordsL_getD s i h]
    have := vs.getD (2 * i)
    have := vs.getD (2 * i + 1)
    unfold num2
    omega
  · have e : (wordsL s).getD i 0 = 0 := by simp [List.getD, List.getElem?_eq_none (show (wordsL s).length ≤ i by rw [wordsL_length]; exact h)]
    rw [e]; omega
theorem range_allI {ws : List Int} (h : ∀ i, 0 ≤ ws.getD i 0 ∧ ws.getD i 0 < 65536) : AllI ws := fun x hx => by
  obtain ⟨i, hi, rfl⟩ := List.getElem_of_mem hx
  have := h i
  have e : ws.getD i 0 = ws[i] := by simp [List.getD, hi]
  rw [e] at this
  omega
theorem range_take {ws : List Int} (h : ∀ i, 0 ≤ ws.getD i 0 ∧ ws.getD i 0 < 65536) (a : Nat) : ∀ i, 0 ≤ (ws.take a).getD i 0 ∧ (ws.take a).getD i 0 < 65536 := fun i => by
  rcases Nat.lt_or_ge i a with hi | hi
  · have e : (ws.take a).getD i 0 = ws.getD i 0 := by simp [List.getD, hi]
    rw [e]; exact h i
  · have e : (ws.take a).getD i 0 = 0 := by simp [List.getD, List.getElem?_eq_none (show (ws.take a).length ≤ i by simp; omega)]
    rw [e]; omega
theorem range_drop {ws : List Int} (h : ∀ i, 0 ≤ ws.getD i 0 ∧ ws.getD i 0 < 65536) (a : Nat) : ∀ i, 0 ≤ (ws.drop a).getD i 0 ∧ (ws.drop a).getD i 0 < 65536 := fun i => by
  have e : (ws.drop a).getD i 0 = ws.getD (a + i) 0 := by simp [List.getD]
  rw [e]; exact h _
theorem BlkN.part {w : World} {t : TypeId} {g B : Nat} {ws : List Int} (h : BlkN w t g ws) (ha : AllI ws) (hg : g < B) (o n : Nat) (hn : o + n ≤ ws.length) : Ns w B (some ⟨g, o, none⟩) n ((ws.drop o).take n) := by
  refine ⟨by simp; omega, (ha.drop o).take n, fun _ => ⟨g, o, rfl, hg, fun i hi => ?_⟩⟩
  rw [h.cell (o + i), cellsN_get (by omega)]
  congr 2
  simp [List.getD, hi]

theorem size_int : (Tryd.prog.info? 3).map (·.size) = some 1 := by kernel_rfl
theorem run_size_int (u : World) : (sizeOf 3).run Tryd.prog u = .ok 1 u := by
  obtain ⟨i, hi, hz⟩ := info_sized size_int
  simp [sizeOf, typeInfo, hi, hz]
theorem run_cut8_all (g : Nat) (u : World) : (Instr.sliceAt 47 (.pointer (some ⟨g, 0, none⟩)) none none none).run Tryd.prog u = .ok (.slice (some ⟨g, 0, none⟩) 8 8) u := by
  rw [run_sliceAt_array_all (P := Tryd.prog) u 47 ⟨g, 0, none⟩ Tryd.underlying47]
  have hs : (sizeOf (Tryd.prog.elem 47)).run Tryd.prog u = .ok 1 u := run_size_int u
  rw [hs, Result.andThen_ok]
  rfl
theorem run_cut8_h (g a : Nat) (ha : a ≤ 8) (u : World) : (Instr.sliceAt 47 (.pointer (some ⟨g, 0, none⟩)) none (some (.int .i64 (a : Int))) none).run Tryd.prog u = .ok (.slice (some ⟨g, 0, none⟩) a 8) u := by
  rw [run_sliceAt_array_h (P := Tryd.prog) u 47 ⟨g, 0, none⟩ Tryd.underlying47 .i64 a (by omega) (by show (a : Int) ≤ ((8 : Nat) : Int); omega)]
  have hs : (sizeOf (Tryd.prog.elem 47)).run Tryd.prog u = .ok 1 u := run_size_int u
  rw [hs, Result.andThen_ok]
  show Result.ok (slicedAt ⟨g, 0, none⟩ 0 (a : Int).toNat 8 1) u = _
  unfold slicedAt
  rw [Int.toNat_natCast, if_neg (by omega), Nat.zero_mul, Addr.add_lit]
  rfl
/-- where a cut from a on begins -/
def cutAt (g a : Nat) : Nat := if 8 = a then 0 else a
theorem run_cut8_l (g a : Nat) (ha : a ≤ 8) (u : World) : (Instr.sliceAt 47 (.pointer (some ⟨g, 0, none⟩)) (some (.int .i64 (a : Int))) none none).run Tryd.prog u = .ok (.slice (some ⟨g, cutAt g a, none⟩) (8 - a) (8 - a)) u := by
  rw [run_sliceAt_array_l (P := Tryd.prog) u 47 ⟨g, 0, none⟩ Tryd.underlying47 .i64 a (by omega) (by show (a : Int) ≤ ((8 : Nat) : Int); omega)]
  have hs : (sizeOf (Tryd.prog.elem 47)).run Tryd.prog u = .ok 1 u := run_size_int u
  rw [hs, Result.andThen_ok]
  show Result.ok (slicedAt ⟨g, 0, none⟩ (a : Int).toNat 8 8 1) u = _
  unfold slicedAt cutAt
  rw [Int.toNat_natCast]
  split
  · rfl
  · rw [Nat.mul_one, Addr.add_lit, Nat.zero_add]
theorem cut_ns {w : World} {t : TypeId} {g B a : Nat} {ws : List Int} (h : BlkN w t g ws) (hl : ws.length = 8) (ha : AllI ws) (hg : g < B) (h8 : a ≤ 8) : Ns w B (some ⟨g, cutAt g a, none⟩) (8 - a) (ws.drop a) := by
  by_cases h' : 8 = a
  · subst h'
    rw [List.drop_eq_nil_of_le (by omega)]
    exact Ns.nil _ _ _
  · unfold cutAt
    rw [if_neg h']
    have := h.part ha hg a (8 - a) (by omega)
    rwa [List.take_of_length_le (by simp; omega)] at this

theorem strL_size (l : List UInt8) : (strL l).size = l.length := by simp [strL, ByteArray.size]
theorem strL_append (l m : List UInt8) : strL l ++ strL m = strL (l ++ m) := by
  apply ByteArray.ext
  simp [strL, ByteArray.data_append]

set_option maxHeartbeats 1600000 in
theorem text_any (s : List Int) (w : World) (hs : s.length = 16) (vs : AllB s) (h : LibT w) :
    Calls Tryd.prog 29 #[addrV s] w fun e w' => e = .returned (.string (strL (textL s))) ∧ Below w.heap.size w w' := by
  unfold addrV
  have HL := Lib.hid h
  have HS := Lib.hid hs
  clear h hs
  have HB0 := Lib.hid (Blk.new w 23 s)
  have hL := low1 w s 23
  go_enter Tryd.func29, Tryd.ntmps29
  go_wp2_with (with_reducible refine wpList_load_addr rfl (.tmp 1) rfl w.heap.size rfl _ s HB0.out HS.out ?_)
  clear HB0
  generalize w.alloc (.cells (cellsB s).toArray 23) = w0 at *
  refine (words_any s w0 HS.out vs).mono ?_
  rintro e w1 ⟨rfl, hl⟩
  replace hL := hL.trans hl
  clear hl
  unfold wordsV
  have HW := Lib.hid (wordsL_length s)
  have HR := Lib.hid (words_range vs)
  have HT := Lib.hid (show textL s = textW (wordsL s) (lrN (isZ (wordsL s)) 8).1 (lrN (isZ (wordsL s)) 8).2.1 from rfl)
  have hle := lrN_le (isZ (wordsL s)) 8
  generalize wordsL s = ws at *
  have HN : Hid (BlkN (w1.alloc (.cells #[.int .i64 0, .int .i64 0, .int .i64 0, .int .i64 0, .int .i64 0, .int .i64 0, .int .i64 0, .int .i64 0] 47)) 47 w1.heap.size zero8) := BlkN.new w1 47 zero8
  have hl1 := Low.alloc w1 (.cells #[.int .i64 0, .int .i64 0, .int .i64 0, .int .i64 0, .int .i64 0, .int .i64 0, .int .i64 0, .int .i64 0] 47)
  go_wp2_with (first
    | ((with_reducible refine wpList_store_words rfl (.tmp 3) (.tmp 7) rfl w1.heap.size rfl ws rfl _ zero8 HN.out rfl HW.out ?_); intro w2 HG hb2 hz2)
    | (with_reducible refine wpList_load_words rfl (.tmp 3) rfl w1.heap.size rfl _ ws HG HW.out ?_))
  have hB2 : Low w w2 := hL.trans (Below.trans (hl1.mono (Nat.le_refl _)) (hb2.mono (Nat.le_refl _)))
  have HG2 := Lib.hid HG
  clear HG hb2 hz2 hl1 HN hL
  refine (longest_any ws w2 HW.out).mono ?_
  rintro e w3 ⟨rfl, hl⟩
  replace hB2 := hB2.trans hl
  replace HG2 := Lib.hid (HG2.out.below hl HG2.out.lt)
  clear hl
  have HL3 := Lib.hid (HL.out.low hB2)
  have HA := Lib.hid (range_allI HR.out)
  generalize (lrN (isZ ws) 8).1 = a at *
  generalize (lrN (isZ ws) 8).2.1 = n at *
  generalize w1.heap.size = g at *
  by_cases h2 : n < 2
  · have HT2 := Lib.hid (HT.out.trans (if_pos h2))
    have hcut := run_cut8_all g
    have h2' : (n : Int) < 2 := by omega
    go_wp2_with fail
    have hs := spell_any (some ⟨g, 0, none⟩) 8 8 ws w3 (by omega) (by have := HG2.out.part HA.out HG2.out.lt 0 8 (by rw [HW.out]; exact Nat.le_refl _); rwa [List.drop_zero, List.take_of_length_le (by rw [HW.out]; exact Nat.le_refl _)] at this) HR.out HL3.out
    refine hs.mono ?_
    rintro e w4 ⟨rfl, hl⟩
    go_wp2
    go_ret
    exact ⟨by rw [HT2.out]; rfl, hB2.trans hl⟩
  · have HT2 := Lib.hid (HT.out.trans (if_neg h2))
    have h2' : ¬ (n : Int) < 2 := by omega
    have hle2 : a + n ≤ 8 := hle.2.2.2
    have ha8 : a ≤ 8 := hle.1
    go_wp2_with fail
    have hch := run_cut8_h g a ha8
    have hcl := run_cut8_l g (a + n) hle2
    simp only [Int.natCast_add] at hcl
    have hwr : IntKind.i64.wrap ((a : Int) + n) = (a : Int) + n := wraps_i64 _ (by omega) (by omega)
    refine wp_region_plan (.rd 0 (.rd 1 (.rd 4 (.rd 5 (.rd 6 (.rd 7 (.act 2 (.rd 3 (.act 8 (.rd 9 (.rd 10 (.done))))))))))))
      (by kernel_rfl) (by kernel_rfl) (fun _ _ d _ _ h => by cases d <;> exact h) (by kernel_rfl) ?_
    have hDR : Low w3 w3.drew := Below.drew (Below.refl _ _)
    replace hB2 := hB2.trans hDR
    replace HL3 := Lib.hid (HL3.out.low hDR)
    replace HG2 : Hid (BlkN w3.drew 47 g ws) := HG2
    clear hDR
    generalize w3.drew = w4 at *
    iterate 6 (refine walkP_read (v := _) rfl (by rfl) (by intro y hy; go_simp; try rfl) ?_; simp only [Act.put, List.setIfInBounds_toArray, List.set_cons_zero, List.set_cons_succ])
    refine walkP_act rfl (by rfl) (fun K hK => ?_)
    go_simp
    have hs := spell_any (some ⟨g, 0, none⟩) a 8 (ws.take a) w4 ha8 (by have := HG2.out.part HA.out HG2.out.lt 0 a (by rw [HW.out]; omega); rwa [List.drop_zero] at this) (range_take HR.out a) HL3.out
    refine hs.mono ?_
    rintro e w5 ⟨rfl, hl⟩
    go_simp
    refine hK _ _ hl ?_
    clear hK K hs
    replace hB2 := hB2.trans hl
    replace HG2 := Lib.hid (HG2.out.below hl HG2.out.lt)
    replace HL3 := Lib.hid (HL3.out.low hl)
    clear hl
    have l1 := spellL_length (ws.take a)
    have l2 := spellL_length (ws.drop (a + n))
    rw [List.length_take, HW.out] at l1
    rw [List.length_drop, HW.out] at l2
    have HX := Lib.hid (show strL (spellL (ws.take a)) ++ (⟨#[58, 58]⟩ : ByteArray) ++ strL (spellL (ws.drop (a + n))) = strL (textL s) by
      rw [HT2.out, ← strL_append, ← strL_append]; rfl)
    have z1 := strL_size (spellL (ws.take a))
    have z2 := strL_size (spellL (ws.drop (a + n)))
    have hz1 : ¬ 9223372036854775807 < (strL (spellL (ws.take a))).size + 2 := by omega
    have hz2 : ¬ 9223372036854775807 < (strL (spellL (ws.take a))).size + 2 + (strL (spellL (ws.drop (a + n)))).size := by omega
    clear z1 z2 l1 l2
    iterate 1 (refine walkP_read (v := _) rfl (by rfl) (by intro y hy; go_simp; try rfl) ?_; simp only [Act.put, List.setIfInBounds_toArray, List.set_cons_zero, List.set_cons_succ])
    refine walkP_act rfl (by rfl) (fun K hK => ?_)
    go_simp
    have hs := spell_any (some ⟨g, cutAt g (a + n), none⟩) (8 - (a + n)) (8 - (a + n)) (ws.drop (a + n)) w5 (by omega) (cut_ns HG2.out HW.out HA.out HG2.out.lt hle2) (range_drop HR.out (a + n)) HL3.out
    refine hs.mono ?_
    rintro e w6 ⟨rfl, hl⟩
    go_simp
    refine hK _ _ hl ?_
    clear hK K hs
    replace hB2 := hB2.trans hl
    clear hl
    iterate 2 (refine walkP_read (v := _) rfl (by rfl) (by intro y hy; go_simp; try rfl) ?_; simp only [Act.put, List.setIfInBounds_toArray, List.set_cons_zero, List.set_cons_succ])
    unfold walkP
    go_wp2
    go_ret
    exact ⟨by rw [← HX.out]; rfl, hB2⟩
end Go.Proofs.YtjafjapnmffohaaDoor

namespace Go.Proofs.YtjafjapnmffohaaDoor
open Go.RowKit
set_option linter.unusedVariables false

/-- which digit a letter is -/
def digV (r : Nat) : Option Nat := if 48 ≤ r ∧ r ≤ 57 then some (r - 48) else if 97 ≤ r ∧ r ≤ 102 then some (r - 87) else if 65 ≤ r ∧ r ≤ 70 then some (r - 55) else none
theorem digV_lt {r d : Nat} (h : digV r = some d) : d < 16 ∧ r < 128 := by
  unfold digV at h
  split at h
  · simp at h; omega
  · split at h
    · simp at h; omega
    · split at h
      · simp at h; omega
      · simp at h
theorem digV_high {r : Nat} (h : 128 ≤ r) : digV r = none := by
  unfold digV
  rw [if_neg (by omega), if_neg (by omega), if_neg (by omega)]

/-- the number that letters tell, behind a number -/
def rdAcc : Nat → List UInt8 → Option Nat
  | n, [] => some n
  | n, b :: r => match digV b.toNat with
    | none => none
    | some d => rdAcc (n * 16 + d) r
def rdG (l : List UInt8) : Option Nat := if l = [] ∨ 4 < l.length then none else rdAcc 0 l
theorem drop_byte (s : ByteArray) (k : Nat) (h : k < s.size) : s.data.toList.drop k = s[k] :: s.data.toList.drop (k + 1) := by
  rw [List.drop_eq_getElem_cons (by simpa using h)]
  rfl
theorem rd_more {s : ByteArray} {k : Nat} (h : k < s.size) {n d : Nat} (hd : digV s[k].toNat = some d) : rdAcc n (s.data.toList.drop k) = rdAcc (n * 16 + d) (s.data.toList.drop (k + 1)) := by
  rw [drop_byte s k h, rdAcc, hd]
theorem rd_fail {s : ByteArray} {k : Nat} (h : k < s.size) {n : Nat} (hd : digV s[k].toNat = none) : rdAcc n (s.data.toList.drop k) = none := by
  rw [drop_byte s k h, rdAcc, hd]
theorem rd_end {s : ByteArray} {k : Nat} (h : s.size ≤ k) {n : Nat} : rdAcc n (s.data.toList.drop k) = some n := by
  rw [List.drop_eq_nil_of_le (by simpa using h), rdAcc]
theorem or_i64_4 (x y : Int) (hx : 0 ≤ x) (hx1 : x < 65536) (hy : 0 ≤ y) (hy1 : y < 16) : bits .or .i64 (x * 16) y = x * 16 + y :=
  bits_join .i64 62 (by decide) wraps_i64 4 (x * 16) y (by omega) (by omega) (by omega) hy (by omega) (by omega)
theorem low_iter (w : World) (s : ByteArray) (pos : Nat) : Low w (w.iter s pos) := Low.alloc w _

/-- where the walk over the letters stands -/
def RgRel (w : World) (s : ByteArray) (v : Value) (wr : World) : Prop :=
  ∃ (k n : Nat), k ≤ s.size ∧ ((k = 0 ∧ n = 0) ∨ (k = 1 ∧ n < 16) ∨ (k = 2 ∧ n < 256) ∨ (k = 3 ∧ n < 4096) ∨ (k = 4 ∧ n < 65536)) ∧ v = .int .i64 n ∧ wr = w.iter s k ∧ rdAcc 0 s.data.toList = rdAcc n (s.data.toList.drop k)
def GivesG (w : World) (o : Option Nat) (e : Ending) (w' : World) : Prop := e = .returned (.tuple #[.int .i64 (o.getD 0 : Nat), .bool o.isSome]) ∧ o.getD 0 < 65536 ∧ Below w.heap.size w w'

end Go.Proofs.YtjafjapnmffohaaDoor

namespace Go.Proofs.YtjafjapnmffohaaDoor
open Go.RowKit
set_option linter.unusedVariables false

/-- the numbers of groups -/
def rdList : List (List UInt8) → Option (List Int)
  | [] => some []
  | p :: r => match rdG p with
    | none => none
    | some n => (rdList r).map ((n : Int) :: ·)
def rdGroups (l : List UInt8) : Option (List Int) := if l = [] then some [] else rdList (Lib.splitN l [58] 9)
theorem rdList_fail {p : List UInt8} {r : List (List UInt8)} (h : rdG p = none) : rdList (p :: r) = none := by rw [rdList, h]
theorem rdList_more {p : List UInt8} {r : List (List UInt8)} {n : Nat} (h : rdG p = some n) : rdList (p :: r) = (rdList r).map ((n : Int) :: ·) := by rw [rdList, h]

theorem OwnN.none_ (t : TypeId) (w : World) (base : Nat) : OwnN t w base none 0 0 [] := ⟨⟨rfl, .inl ⟨rfl, rfl⟩⟩, AllI.nil⟩
theorem info_int : (Tryd.prog.info? 3).map (fun i => (i.zero, i.size, i.bytes)) = some (some (.int .i64 0), 1, 8) := by kernel_rfl
theorem info_int_parts : ∃ i, Tryd.prog.info? 3 = some i ∧ i.zero = some (.int .i64 0) ∧ i.size = 1 ∧ i.bytes = 8 := by
  have h := info_int
  cases hq : Tryd.prog.info? 3 with
  | none => simp [hq] at h
  | some i => simp [hq] at h; exact ⟨i, rfl, h⟩

/-- k groups are read -/
def GsRel (w1 : World) (B : Nat) (qs : List (List UInt8)) (v i : Value) (wr : World) : Prop :=
  ∃ (k : Nat) (A : Option Addr) (c : Nat) (ws : List Int), k ≤ qs.length ∧ i = .int .i64 k ∧ v = .slice A k c ∧ OwnN 3 wr B A k c ws ∧ (∀ x ∈ ws, 0 ≤ x ∧ x < 65536) ∧ rdList qs = (rdList (qs.drop k)).map (ws ++ ·) ∧ Below B w1 wr
/-- the call hands back the numbers, or that there are none -/
def GivesNs (w : World) (o : Option (List Int)) (e : Ending) (w' : World) : Prop :=
  ∃ A n c, e = .returned (.tuple #[.slice A n c, .bool o.isSome]) ∧ Ns w' w'.heap.size A n (o.getD []) ∧ n ≤ 9 ∧ n ≤ c ∧ c ≤ maxLen ∧ (∀ x ∈ o.getD [], 0 ≤ x ∧ x < 65536) ∧ Below w.heap.size w w'

theorem range_snoc {ws : List Int} (h : ∀ x ∈ ws, 0 ≤ x ∧ x < 65536) {n : Int} (h0 : 0 ≤ n) (h1 : n < 65536) : ∀ x ∈ ws ++ [n], 0 ≤ x ∧ x < 65536 := fun x hx => by
  rcases List.mem_append.1 hx with hx | hx
  · exact h x hx
  · obtain rfl : x = n := by simpa using hx
    exact ⟨h0, h1⟩
theorem split_size (sep : ByteArray) : ∀ (k : Nat) (s : ByteArray), ∀ p ∈ Lib.splitB sep 0 k s, p.size ≤ s.size
  | 0, s, p, h => by
    obtain rfl : p = s := by simpa [Lib.splitB] using h
    exact Nat.le_refl _
  | k + 1, s, p, h => by
    unfold Lib.splitB at h
    split at h
    · obtain rfl : p = s := by simpa using h
      exact Nat.le_refl _
    · rcases List.mem_cons.1 h with rfl | h
      · rw [ByteArray.size_extract]; omega
      · have := split_size sep k _ p h
        rw [ByteArray.size_extract] at this
        omega
theorem rd_step {qs : List (List UInt8)} {k n : Nat} {ws : List Int} {p : List UInt8} (hp : qs[k]? = some p) (hg : rdG p = some n) (h : rdList qs = (rdList (qs.drop k)).map (ws ++ ·)) : rdList qs = (rdList (qs.drop (k + 1))).map ((ws ++ [(n : Int)]) ++ ·) := by
  obtain ⟨hk, rfl⟩ := List.getElem?_eq_some_iff.1 hp
  rw [h, List.drop_eq_getElem_cons hk, rdList_more hg]
  cases rdList (qs.drop (k + 1)) <;> simp
theorem rd_stop {qs : List (List UInt8)} {k : Nat} {ws : List Int} {p : List UInt8} (hp : qs[k]? = some p) (hg : rdG p = none) (h : rdList qs = (rdList (qs.drop k)).map (ws ++ ·)) : rdList qs = none := by
  obtain ⟨hk, rfl⟩ := List.getElem?_eq_some_iff.1 hp
  rw [h, List.drop_eq_getElem_cons hk, rdList_fail hg]
  rfl
theorem rd_done {qs : List (List UInt8)} {k : Nat} {ws : List Int} (hk : qs.length ≤ k) (h : rdList qs = (rdList (qs.drop k)).map (ws ++ ·)) : rdList qs = some ws := by
  rw [h, List.drop_eq_nil_of_le hk, rdList]
  simp

end Go.Proofs.YtjafjapnmffohaaDoor

namespace Go.Proofs.YtjafjapnmffohaaDoor
open Go.RowKit
set_option linter.unusedVariables false

theorem zc_size (z : Value) (hz : z.cells.size = 1) (k : Nat) : (Builtin.zeroCells z.cells k).size = k := by
  simp [Builtin.zeroCells, hz]

/-- lists of ints: the slices, and what each holds -/
structure RowN (w : World) (A : Option Addr) (vs : List (Option Addr × Nat × Nat)) (yss : List (List Int)) : Prop where
  len : yss.length = vs.length
  each : ∀ i, i < vs.length → Ns w w.heap.size (vs.getD i (none, 0, 0)).1 (vs.getD i (none, 0, 0)).2.1 (yss.getD i [])
  mem : 0 < vs.length → ∃ b o, A = some ⟨b, o, none⟩ ∧ b < w.heap.size ∧ ∀ i, i < vs.length → w.cell? ⟨b, o + i, none⟩ = some (.slice (vs.getD i (none, 0, 0)).1 (vs.getD i (none, 0, 0)).2.1 (vs.getD i (none, 0, 0)).2.2)

def CcRel (w : World) (B : Nat) (m : Nat) (yss : List (List Int)) (v i : Value) (wr : World) : Prop :=
  ∃ (k q : Nat) (A : Option Addr) (c : Nat), k ≤ m ∧ i = .int .i64 k ∧ v = .slice A q c ∧ q = (upto yss k).length ∧ OwnN 3 wr B A q c (upto yss k) ∧ Below w.heap.size w wr

end Go.Proofs.YtjafjapnmffohaaDoor

namespace Go.Proofs.YtjafjapnmffohaaDoor
open Go.RowKit
set_option linter.unusedVariables false

/-- the numbers of what stands ahead of ::, and behind it, make an address, if they are as many as they may be -/
def readP (short : Bool) (x y : Option (List Int)) : Option (List Int) :=
  match x, y with
  | some a, some b => if (if short then a.length + b.length ≤ 7 else a.length + b.length = 8) then some (ofL (a ++ (List.replicate (8 - a.length - b.length) 0 ++ b))) else none
  | _, _ => none
def readL (l : List UInt8) : Option (List Int) := readP (Lib.cut l [58, 58]).2.2 (rdGroups (Lib.cut l [58, 58]).1) (rdGroups (Lib.cut l [58, 58]).2.1)
def GivesA (w : World) (o : Option (List Int)) (e : Ending) (w' : World) : Prop := e = .returned (.tuple #[addrV (o.getD zero16), .int .i64 (if o.isSome then 0 else 5)]) ∧ Below w.heap.size w w'
theorem cut_le (l sep : List UInt8) : (Lib.cut l sep).1.length ≤ l.length ∧ (Lib.cut l sep).2.1.length ≤ l.length := by
  unfold Lib.cut
  split
  · simp; omega
  · simp

theorem RowN.three {w : World} {g : Nat} {t : TypeId} {a0 a1 a2 : Option Addr} {n0 n1 n2 c0 c1 c2 : Nat} {y0 y1 y2 : List Int} (h : w.heap[g]? = some (.cells #[.slice a0 n0 c0, .slice a1 n1 c1, .slice a2 n2 c2] t (0, 0)))
    (h0 : Ns w w.heap.size a0 n0 y0) (h1 : Ns w w.heap.size a1 n1 y1) (h2 : Ns w w.heap.size a2 n2 y2) : RowN w (some ⟨g, 0, none⟩) [(a0, n0, c0), (a1, n1, c1), (a2, n2, c2)] [y0, y1, y2] := by
  refine ⟨rfl, fun i hi => ?_, fun _ => ⟨g, 0, rfl, (Array.getElem?_eq_some_iff.1 h).1, fun i hi => ?_⟩⟩
  · match i, hi with
    | 0, _ => exact h0
    | 1, _ => exact h1
    | 2, _ => exact h2
  · rw [cell_of_row w g (0 + i) _ t (0, 0) h]
    match i, hi with
    | 0, _ => rfl
    | 1, _ => rfl
    | 2, _ => rfl
theorem AllI.zeros (m : Nat) : AllI (List.replicate m 0) := fun x hx => by
  obtain rfl : x = 0 := List.eq_of_mem_replicate hx
  omega
theorem run_zeros (m : Nat) (hm : m ≤ 8) (u : World) : (Instr.makeSlice 60 (.int .i64 (m : Int)) (.int .i64 (m : Int))).run Tryd.prog u =
      .ok (.slice (some ⟨u.heap.size, 0, none⟩) m m) (u.alloc (.cells (cellsN (List.replicate m 0)).toArray 3)) := by
  obtain ⟨i0, hi, hz0, hz1, hz2⟩ := info_int_parts
  have h := run_make (P := Tryd.prog) u 60 3 i0 (.int .i64 0) Tryd.underlying60 hi hz0 .i64 .i64 (m : Int) (m : Int) (by omega) (Int.le_refl _) (by rw [hz2]; omega) (by omega)
  simp only [hz1, Value.cells, made_rep] at h
  have e : cellsN (List.replicate m 0) = List.replicate m (Value.int .i64 0) := by simp [cellsN]
  rw [e]
  simpa using h

end Go.Proofs.YtjafjapnmffohaaDoor
