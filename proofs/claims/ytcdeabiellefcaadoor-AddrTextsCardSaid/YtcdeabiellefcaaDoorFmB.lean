/- What strconv.FormatInt tells at base 16. Conditions: the number is from 0 to 65535; the library's table of places holds what its text lays. -/
import Derived.Test.YtcdeabiellefcaaDoorFmA
import Derived.Laws.IdiomStrings
namespace Go.Proofs.YtcdeabiellefcaaDoor
open Go.RowKit
set_option linter.unusedVariables false

/-- a hexadecimal digit's letter -/
def hexD (n : Nat) : UInt8 := if n < 10 then UInt8.ofNat (48 + n) else UInt8.ofNat (87 + n)
/-- a number's letters -/
def hexF : Nat → Nat → List UInt8
  | 0, _ => []
  | f + 1, n => if n < 16 then [hexD n] else hexF f (n / 16) ++ [hexD (n % 16)]
def hexL (n : Nat) : List UInt8 := hexF 5 n
def nums (l : List UInt8) : List Int := l.map fun b => (b.toNat : Int)
theorem hexF_fuel (f : Nat) : ∀ g n, n < 16 ^ f → n < 16 ^ g → 0 < f → 0 < g → hexF f n = hexF g n := by
  induction f with
  | zero => intro g n _ _ h; omega
  | succ f ih =>
    intro g n hf hg _ hg0
    cases g with
    | zero => omega
    | succ g =>
      unfold hexF
      split
      · rfl
      · rename_i h16
        have hf0 : 0 < f := by
          cases f with
          | zero => simp at hf; omega
          | succ _ => omega
        have hg1 : 0 < g := by
          cases g with
          | zero => simp at hg; omega
          | succ _ => omega
        rw [ih g (n / 16) (by rw [Nat.pow_succ] at hf; omega) (by rw [Nat.pow_succ] at hg; omega) hf0 hg1]
theorem hexL_small (n : Nat) (h : n < 16) : hexL n = [hexD n] := by unfold hexL hexF; rw [if_pos h]
theorem hexL_more (n : Nat) (h : 16 ≤ n) (h2 : n < 65536) : hexL n = hexL (n / 16) ++ [hexD (n % 16)] := by
  have e : hexL n = hexF 4 (n / 16) ++ [hexD (n % 16)] := by
    show hexF 5 n = _
    rw [hexF, if_neg (by omega)]
  rw [e]
  unfold hexL
  rw [hexF_fuel 4 5 (n / 16) (by omega) (by omega) (by omega) (by omega)]

/-- one step of the loop -/
def FmRel (w : World) (u : Nat) (su si : Value) (wr : World) : Prop :=
  ∃ (x j : Nat) (tail : List UInt8), su = .int .u64 x ∧ si = .int .i64 (j + 1 : Nat) ∧ ((j = 64 ∧ x < 65536) ∨ (j = 63 ∧ x < 4096) ∨ (j = 62 ∧ x < 256) ∨ (j = 61 ∧ x < 16)) ∧ j + tail.length = 64 ∧
    hexL u = hexL x ++ tail ∧ Blk wr 87 w.heap.size (List.replicate (j + 1) 0 ++ nums tail) ∧ Below w.heap.size w wr
theorem u64_and15 (x : Nat) (h : x < 65536) : bits .and .u64 (x : Int) 15 = ((x % 16 : Nat) : Int) := by
  have h : (BitVec.ofInt 64 (x : Int) &&& BitVec.ofInt 64 15).toNat = x % 16 := by
    rw [BitVec.toNat_and, BitVec.toNat_ofInt, show (BitVec.ofInt 64 15).toNat = 2 ^ 4 - 1 by decide, Nat.and_two_pow_sub_one_eq_mod]
    omega
  show IntKind.u64.wrap ((BitVec.ofInt 64 (x : Int) &&& BitVec.ofInt 64 15).toNat : Int) = _
  rw [h, wraps_u64 _ (by omega) (by omega)]
theorem row_at (j : Nat) (l : List UInt8) : (cellsB (List.replicate (j + 1) 0 ++ nums l))[j]? = some (.int .u8 0) := by
  rw [cellsB_get (by simp; omega)]
  congr 2
  simp [List.getD, List.getElem?_append_left]
theorem row_set (j : Nat) (l : List UInt8) (b : UInt8) : (List.replicate (j + 1) (0 : Int) ++ nums l).set j (b.toNat : Int) = List.replicate j 0 ++ nums (b :: l) := by
  rw [List.replicate_succ', List.append_assoc, List.set_append_right _ _ (by simp)]
  simp [nums]

def digs36 : ByteArray := ⟨#[48, 49, 50, 51, 52, 53, 54, 55, 56, 57, 97, 98, 99, 100, 101, 102, 103, 104, 105, 106, 107, 108, 109, 110, 111, 112, 113, 114, 115, 116, 117, 118, 119, 120, 121, 122]⟩
theorem dig_tab36 (i : Nat) (h : i < 16) (h' : i < digs36.size) : digs36[i] = hexD i := by
  have k : ∀ n : Fin 16, digs36[n.val]'(Nat.lt_of_lt_of_le n.isLt (by decide)) = hexD n.val := by decide
  exact k ⟨i, h⟩

theorem run_cut65 (g j : Nat) (hj : j < 65) (u : World) : (Instr.sliceAt 87 (.pointer (some ⟨g, 0, none⟩)) (some (.int .i64 (j : Int))) none none).run Tryd.prog u = .ok (.slice (some ⟨g, j, none⟩) (65 - j) (65 - j)) u := by
  obtain ⟨i, hi, hz⟩ := info_sized size_u8
  rw [run_sliceAt_array_l (P := Tryd.prog) u 87 ⟨g, 0, none⟩ Tryd.underlying87 .i64 j (by omega) (by show (j : Int) ≤ ((65 : Nat) : Int); omega)]
  have hs : (sizeOf (Tryd.prog.elem 87)).run Tryd.prog u = .ok 1 u := by
    show (sizeOf 5).run Tryd.prog u = .ok 1 u
    simp [sizeOf, typeInfo, hi, hz]
  rw [hs, Result.andThen_ok]
  show Result.ok (slicedAt ⟨g, 0, none⟩ (j : Int).toNat 65 65 1) u = _
  unfold slicedAt
  rw [Int.toNat_natCast, if_neg (by omega), Nat.mul_one, Addr.add_lit, Nat.zero_add]

/-- bytes at the end of a row become a string -/
theorem run_str_tail {w : World} {t : TypeId} {g j n : Nat} {l : List UInt8} (h : Blk w t g (List.replicate j 0 ++ nums l)) (hl : l.length = n) :
    (convert 45 9 (.slice (some ⟨g, j, none⟩) n n)).run Tryd.prog w = .ok (.string ⟨l.toArray⟩) w := by
  subst hl
  refine run_convert_bytes_back w 45 9 5 ⟨g, j, none⟩ l.length l Tryd.underlying45 Tryd.underlying5 Tryd.underlying9 fun k hk => ?_
  rw [Addr.add_lit, h.cell (j + k), cellsB_get (by simp [nums]; omega)]
  congr 2
  simp only [List.getD]
  rw [List.getElem?_append_right (by simp)]
  simp [nums, hk]

set_option maxHeartbeats 1600000 in
set_option maxRecDepth 100000 in
theorem bits16_any (u : Nat) (w : World) (hu : u < 65536) (h : Libs w) :
    Calls Tryd.prog 48 #[.slice none 0 0, .int .u64 u, .int .i64 16, .bool false, .bool false] w fun e w' => e = .returned (.tuple #[.slice none 0 0, .string ⟨(hexL u).toArray⟩]) ∧ Below w.heap.size w w' := by
  have HL := Lib.hid h
  clear h
  go_enter Tryd.func48, Tryd.ntmps48
  go_wp2_with fail
  refine (pow2_16 _).mono ?_
  rintro e w' ⟨rfl, rfl⟩
  go_wp2_with fail
  refine (tz_16 _ (HL.out.low (Low.alloc w _))).mono ?_
  rintro e w' ⟨rfl, rfl⟩
  go_wp2_with fail
  go_loopw [1, 13] (fun a b wr => FmRel w u a b wr) (fun a _ _ => (intOf a).toNat)
  case atStart => exact ⟨u, 64, [], rfl, rfl, by omega, rfl, by simp, Blk.new w _ (List.replicate 65 0), Low.alloc w _⟩
  case round =>
    obtain ⟨x, j, tail, rfl, rfl, hb, hl, he, hk, hB⟩ := hrel
    have HT := Lib.hid hl
    have HE := Lib.hid he
    have HK := Lib.hid hk
    clear hl he hk
    by_cases hlt : 16 ≤ x
    · have hj : j ≤ 64 ∧ 62 ≤ j := by omega
      have hx : x < 65536 := by omega
      have hand := u64_and15 x hx
      have h0 := HK.out.cell j
      rw [row_at] at h0
      have h1 := HK.out.frozen j
      have hx16 : x % 16 < 16 := by omega
      have HM := Lib.hid (hexL_more x hlt hx)
      have HD := Lib.hid (dig_tab36 (x % 16) hx16 (Nat.lt_of_lt_of_le hx16 (by decide)))
      unfold digs36 at HD
      go_wp2
      go_roundw
      case rel =>
        obtain ⟨i, rfl⟩ : ∃ i, j = i + 1 := ⟨j - 1, by omega⟩
        refine ⟨x / 16, i, hexD (x % 16) :: tail, by go_num, rfl, by omega, by have := HT.out; simp; omega, by rw [HE.out, HM.out]; simp, ?_, hB.setCell (Nat.le_refl _) _⟩
        rw [← row_set, ← HD.out]
        exact HK.out.set_ (i + 1) _
      case measure => simp [intOf]; omega
    · have hx : x < 16 := by omega
      have hj : j ≤ 64 ∧ 61 ≤ j := by omega
      have hge : ¬ (16 : Int) ≤ x := by omega
      have h0 := HK.out.cell j
      rw [row_at] at h0
      have h1 := HK.out.frozen j
      have HD := Lib.hid (dig_tab36 x hx (Nat.lt_of_lt_of_le hx (by decide)))
      unfold digs36 at HD
      have hsl := run_cut65 w.heap.size j (by omega)
      have hd := HD.out
      have hk2 : Blk (wr.setCell ⟨w.heap.size, j, none⟩ (.int .u8 ((hexD x).toNat : Int))) 87 w.heap.size (List.replicate j 0 ++ nums (hexD x :: tail)) := by
        rw [← row_set]
        exact HK.out.set_ j _
      have hcv := run_str_tail (n := 65 - j) hk2 (by have := HT.out; simp; omega)
      have HX := Lib.hid (show hexL u = hexD x :: tail by rw [HE.out, hexL_small x hx]; rfl)
      have HB2 := Lib.hid (hB.setCell (Nat.le_refl _) (p := ⟨w.heap.size, j, none⟩) (.int .u8 ((hexD x).toNat : Int)))
      clear hk2
      go_wp2
      go_ret2
      exact ⟨by rw [HX.out]; rfl, HB2.out⟩

set_option maxHeartbeats 800000 in
theorem ifmt16_any (u : Nat) (w : World) (hu : u < 65536) (h : Libs w) :
    Calls Tryd.prog 38 #[.int .i64 u, .int .i64 16] w fun e w' => e = .returned (.string ⟨(hexL u).toArray⟩) ∧ Below w.heap.size w w' := by
  have h0 : ¬ (u : Int) < 0 := by omega
  go_enter Tryd.func38, Tryd.ntmps38
  go_wp2_with fail
  refine (bits16_any u w hu h).mono ?_
  rintro e w' ⟨rfl, hB⟩
  go_wp2
  go_ret
  exact ⟨rfl, hB⟩

set_option maxHeartbeats 800000 in
theorem fmt16_any (u : Nat) (w : World) (hu : u < 65536) (h : Libs w) :
    Calls Tryd.prog 31 #[.int .i64 u, .int .i64 16] w fun e w' => e = .returned (.string ⟨(hexL u).toArray⟩) ∧ Below w.heap.size w w' := by
  go_enter Tryd.func31, Tryd.ntmps31
  go_wp2_with fail
  refine (ifmt16_any u w hu h).mono ?_
  rintro e w' ⟨rfl, hB⟩
  go_wp2
  go_ret
  exact ⟨rfl, hB⟩
end Go.Proofs.YtcdeabiellefcaaDoor
