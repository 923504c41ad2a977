/- Texts joined.
  What octets.there, U16 and U32 answer, at any place of any bytes. Conditions: the slice is at most 2^47 bytes long, the place is an int.
  What octets.Zeros, and the document's own Zeros, answer: whether each byte is 0. Condition: the slice is at most 2^47 bytes long.
  What octets.Join answers: all lists, one behind the other, in a new block. Condition: together they are at most 2^48 bytes long.
  What octets.Put16, Put32, Set16 and Cut answer. Conditions: the lists are at most 2^47 bytes long; places and numbers are ints.
  What the laws' own small test, 'lives', answers: true. No condition.
  The answers of octets and of the document to U16, U32 and Cut, each as one function of the input. Conditions: the slice is at most 2^47 bytes long, places and numbers are ints.
  The document's own answers for layer 1 that lay bytes: Two, Four, Set16. Conditions: numbers are ints, the slice is at most 2^47 bytes long.
-/
import Derived.Test.YtogmfhofdjiihaaRows
import Derived.Test.YtogmfhofdjiihaaBytes
import Derived.Deep.QuietTactic
import Derived.BigQuiet
import Derived.Lib.EndianBits
import Derived.Test.YtogmfhofdjiihaaApp
set_option maxRecDepth 100000
namespace Go.Proofs.Ytogmfhofdjiihaa
open Go.RowKit

def i64ok (a : Int) : Prop := -9223372036854775808 ≤ a ∧ a ≤ 9223372036854775807

theorem wraps_i64 (n : Int) (h₀ : 0 ≤ n) (h₁ : n < 2 ^ 62) : IntKind.i64.wrap n = n := by rw [IntKind.wrap_i64]; omega
theorem or_i64_8 (x y : Int) (hx : 0 ≤ x) (hx1 : x < 256) (hy : 0 ≤ y) (hy1 : y < 256) : bits .or .i64 (x * 256) y = x * 256 + y :=
  bits_join .i64 62 (by decide) wraps_i64 8 (x * 256) y (by omega) (by omega) (by omega) hy (by omega) (by omega)
theorem or_u32 (i : Nat) (x y : Int) (hx₀ : 0 ≤ x) (hx : x % 2 ^ i = 0) (hx₁ : x < 4294967296) (hy₀ : 0 ≤ y) (hy : y < 2 ^ i) (hy₁ : y < 4294967296) : bits .or .u32 x y = x + y :=
  bits_join .u32 32 (by decide) wraps_u32 i x y hx₀ hx hx₁ hy₀ hy hy₁
theorem or4_u32 (x y z t : Int) (hx : 0 ≤ x ∧ x < 256) (hy : 0 ≤ y ∧ y < 256) (hz : 0 ≤ z ∧ z < 256) (ht : 0 ≤ t ∧ t < 256) :
    bits .or .u32 (bits .or .u32 (bits .or .u32 (x * 16777216) (y * 65536)) (z * 256)) t = x * 16777216 + y * 65536 + z * 256 + t := by
  rw [or_u32 24 (x * 16777216) (y * 65536) (by omega) (by omega) (by omega) (by omega) (by omega) (by omega),
    or_u32 16 (x * 16777216 + y * 65536) (z * 256) (by omega) (by omega) (by omega) (by omega) (by omega) (by omega),
    or_u32 8 (x * 16777216 + y * 65536 + z * 256) t (by omega) (by omega) (by omega) (by omega) (by omega) (by omega)]

/-- the number of two bytes, of four -/
def num2 (xs : List Int) (p : Nat) : Int := xs.getD p 0 * 256 + xs.getD (p + 1) 0
def num4 (xs : List Int) (p : Nat) : Int := xs.getD p 0 * 16777216 + xs.getD (p + 1) 0 * 65536 + xs.getD (p + 2) 0 * 256 + xs.getD (p + 3) 0

/- the document's own answers -/
end Go.Proofs.Ytogmfhofdjiihaa

namespace Go.Proofs.Ytogmfhofdjiihaa
open Go.RowKit

def zerosB (xs : List Int) : Bool := xs.all fun x => x == 0
def ZeroTo (xs : List Int) (k : Nat) : Prop := ∀ j, j < k → xs.getD j 0 = 0
theorem ZeroTo.zero (xs : List Int) : ZeroTo xs 0 := fun j h => absurd h (by omega)
theorem ZeroTo.succ {xs : List Int} {k : Nat} (h : ZeroTo xs k) (e : xs.getD k 0 = 0) : ZeroTo xs (k + 1) := fun j hj => by
  rcases Nat.lt_or_ge j k with h1 | h1
  · exact h j h1
  · obtain rfl : j = k := by omega
    exact e
theorem zerosB_true {xs : List Int} (h : ZeroTo xs xs.length) : zerosB xs = true := by
  unfold zerosB
  rw [List.all_eq_true]
  intro x hx
  obtain ⟨i, hi, rfl⟩ := List.mem_iff_getElem.1 hx
  have := h i hi
  simp [List.getD, hi] at this
  simp [this]
theorem zerosB_false {xs : List Int} {k : Nat} (hk : k < xs.length) (h : xs.getD k 0 ≠ 0) : zerosB xs = false := by
  unfold zerosB
  rw [List.all_eq_false]
  refine ⟨xs[k], List.getElem_mem hk, ?_⟩
  have e : xs.getD k 0 = xs[k] := by simp [List.getD, hk]
  rw [e] at h
  simpa using h
theorem ret_bool {a b : Bool} (h : a = b) : Ending.returned (.bool a) = .returned (.bool b) := by rw [h]

end Go.Proofs.Ytogmfhofdjiihaa

namespace Go.Proofs.Ytogmfhofdjiihaa
open Go.RowKit

theorem info5 : (Try.prog.info? 5).map (fun i => (i.zero, i.size, i.bytes)) = some (some (.int .u8 0), 1, 1) := by kernel_rfl
theorem size5 : (Try.prog.info? 5).map (·.size) = some 1 := by kernel_rfl

/-- lists of bytes: the slices, and what each holds -/
structure Row (w : World) (A : Option Addr) (vs : List (Option Addr × Nat × Nat)) (yss : List (List Int)) : Prop where
  len : yss.length = vs.length
  each : ∀ i, i < vs.length → Bs w w.heap.size (vs.getD i (none, 0, 0)).1 (vs.getD i (none, 0, 0)).2.1 (yss.getD i [])
  mem : 0 < vs.length → ∃ b o, A = some ⟨b, o, none⟩ ∧ b < w.heap.size ∧ ∀ i, i < vs.length → w.cell? ⟨b, o + i, none⟩ = some (.slice (vs.getD i (none, 0, 0)).1 (vs.getD i (none, 0, 0)).2.1 (vs.getD i (none, 0, 0)).2.2)

/-- the first k lists, joined -/
def upto (yss : List (List Int)) (k : Nat) : List Int := (yss.take k).flatten
theorem upto_succ (yss : List (List Int)) (k : Nat) (h : k < yss.length) : upto yss (k + 1) = upto yss k ++ yss.getD k [] := by
  unfold upto
  rw [List.take_succ_eq_append_getElem h, List.flatten_append]
  simp [List.getD, h]
theorem upto_all (yss : List (List Int)) (k : Nat) (h : yss.length ≤ k) : upto yss k = yss.flatten := by
  unfold upto; rw [List.take_of_length_le h]
theorem upto_le (yss : List (List Int)) (k : Nat) : (upto yss k).length ≤ yss.flatten.length := by
  have h : yss.flatten = (yss.take k).flatten ++ (yss.drop k).flatten := by rw [← List.flatten_append, List.take_append_drop]
  rw [h, List.length_append]; unfold upto; omega

/-- the row in the making: what is laid, and noughts -/
def laidRow (xs : List Int) (N : Nat) : List Value := cellsB xs ++ List.replicate (N - xs.length) (.int .u8 0)
theorem laidRow_length (xs : List Int) (N : Nat) (h : xs.length ≤ N) : (laidRow xs N).length = N := by simp [laidRow, cellsB_length]; omega
theorem laidRow_splice (xs ys : List Int) (N : Nat) : splice (laidRow xs N) xs.length (cellsB ys) = laidRow (xs ++ ys) N := by
  unfold splice laidRow
  rw [cellsB_append, List.append_assoc]
  congr 1
  · rw [List.take_left' (by rw [cellsB_length])]
  · congr 1
    rw [List.drop_append, List.drop_eq_nil_of_le (by rw [cellsB_length, cellsB_length]; omega), List.nil_append, List.drop_replicate, cellsB_length, cellsB_length]
    congr 1
    simp; omega
theorem laidRow_full (xs : List Int) : laidRow xs xs.length = cellsB xs := by simp [laidRow]
theorem made_laid (N : Nat) : madeCells #[.int .u8 0] N = (laidRow [] N).toArray := by
  apply Array.ext
  · simp [madeCells, laidRow, cellsB]
  · intro i h1 h2
    simp [madeCells, laidRow, cellsB, Nat.mod_one]

set_option maxHeartbeats 800000 in
theorem join_any (A : Option Addr) (m c : Nat) (vs : List (Option Addr × Nat × Nat)) (yss : List (List Int)) (N : Nat) (w : World) (hm : vs.length = m) (hm2 : m ≤ 140737488355328) (hr : Row w A vs yss)
    (hN : yss.flatten.length = N) (hbig : N ≤ 281474976710656) :
    Calls Try.prog 70 #[.slice A m c] w fun e w' => e = .returned (.slice (some ⟨w.heap.size, 0, none⟩) N N) ∧ w'.heap[w.heap.size]? = some (.cells (cellsB yss.flatten).toArray 5 (0, 0)) ∧ Below w.heap.size w w' := by
  obtain ⟨i0, hi, hz0, hz1, hz2⟩ := info_parts info5
  have hmk : ∀ u : World, (Instr.makeSlice 80 (.int .i64 (N : Int)) (.int .i64 (N : Int))).run Try.prog u =
      .ok (.slice (some ⟨u.heap.size, 0, none⟩) N N) (u.alloc (.cells (madeCells #[.int .u8 0] N) 5)) := fun u => by
    have h := run_make (P := Try.prog) u 80 5 i0 (.int .u8 0) Try.underlying80 hi hz0 .i64 .i64 (N : Int) (N : Int) (by omega) (Int.le_refl _) (by rw [hz2]; omega) (by omega)
    simpa [hz1, Value.cells] using h
  have HN := Lib.hid hN
  have HM := Lib.hid hm
  clear hN hm
  go_enter Try.func70, Try.ntmps70
  go_wp2
  go_loop [3, 12] (fun s i => ∃ k : Nat, k ≤ m ∧ i = .int .i64 k ∧ s = .int .i64 ((upto yss k).length : Nat)) (fun _ i => m - (intOf i).toNat)
  case atStart => exact ⟨0, Nat.zero_le _, rfl, rfl⟩
  case round =>
    obtain ⟨k, hk, rfl, rfl⟩ := hrel
    by_cases hlt : k < m
    · obtain ⟨b, o, rfl, _, hc⟩ := hr.mem (by rw [HM.out]; omega)
      obtain ⟨a, n, cc, hve⟩ : ∃ a n cc, vs.getD k (none, 0, 0) = (a, n, cc) := ⟨_, _, _, rfl⟩
      have h0 := hc k (by rw [HM.out]; omega)
      have hv := hr.each k (by rw [HM.out]; omega)
      rw [hve] at h0 hv
      dsimp only at h0 hv
      have hle : (upto yss (k + 1)).length = (upto yss k).length + n := by rw [upto_succ yss k (by rw [hr.len, HM.out]; omega), List.length_append, hv.len]
      have HL := Lib.hid hle
      have hb1 : (upto yss k).length + n ≤ 281474976710656 := by rw [← hle]; have := HN.out; have := upto_le yss (k + 1); omega
      clear hc hv hle hve
      go_wp2
      go_round
      case rel => exact ⟨k + 1, by omega, by go_num, by rw [HL.out]; go_num⟩
      case measure => simp [intOf]; omega
    · obtain rfl : k = m := by omega
      have hal : (upto yss k).length = N := by rw [upto_all yss k (by rw [hr.len, HM.out]; omega)]; exact HN.out
      rw [hal]
      clear hal
      rw [made_laid] at hmk
      obtain ⟨Z, hZ⟩ : ∃ Z, Z = laidRow [] N := ⟨_, rfl⟩
      rw [← hZ] at hmk
      have HZ := Lib.hid hZ
      clear hZ
      go_wp2
      go_loopw [7, 25] (fun s i wr => ∃ j : Nat, j ≤ k ∧ i = .int .i64 j ∧ s = .int .i64 ((upto yss j).length : Nat) ∧ Hid (wr.heap[w.heap.size]? = some (.cells (laidRow (upto yss j) N).toArray 5 (0, 0))) ∧ Below w.heap.size w wr) (fun _ i _ => k - (intOf i).toNat)
      case atStart =>
        refine ⟨0, Nat.zero_le _, rfl, rfl, ?_, (Below.refl _ _).alloc (Nat.le_refl _) _⟩
        have := heap_alloc_new w (.cells Z.toArray 5 (0, 0))
        rw [HZ.out] at this ⊢
        exact this
      case round =>
        obtain ⟨j, hj, rfl, rfl, HG, hB⟩ := hrel
        by_cases hlt : j < k
        · obtain ⟨b, o, rfl, hbw, hc⟩ := hr.mem (by rw [HM.out]; omega)
          obtain ⟨a, n, cc, hve⟩ : ∃ a n cc, vs.getD j (none, 0, 0) = (a, n, cc) := ⟨_, _, _, rfl⟩
          have h0 := hc j (by rw [HM.out]; omega)
          have hv := hr.each j (by rw [HM.out]; omega)
          rw [hve] at h0 hv
          dsimp only at h0 hv
          have hv2 := hv.below hB
          rw [← hB.cell (p := ⟨b, o + j, none⟩) hbw] at h0
          have hle : (upto yss (j + 1)).length = (upto yss j).length + n := by rw [upto_succ yss j (by rw [hr.len, HM.out]; omega), List.length_append, hv.len]
          have HL := Lib.hid hle
          have HS := Lib.hid (upto_succ yss j (by rw [hr.len, HM.out]; omega))
          have hb1 : (upto yss j).length + n ≤ N := by rw [← hle]; have := HN.out; have := upto_le yss (j + 1); omega
          have hb0 : (upto yss j).length ≤ N := by omega
          clear hc hv hle hve
          obtain ⟨ys, hys⟩ : ∃ ys, ys = yss.getD j [] := ⟨_, rfl⟩
          rw [← hys] at hv2 HS
          clear hys
          have hsrc := Lib.hid hv2.src
          have hlen := Lib.hid hv2.len
          obtain ⟨cs, hcs⟩ : ∃ cs, cs = cellsB ys := ⟨_, rfl⟩
          rw [← hcs] at hsrc
          have HCS := Lib.hid hcs
          have HCO := Lib.hid (cellsB_one ys)
          rw [← hcs] at HCO
          clear hcs
          have hcl : Hid (cs.length = n) := by rw [HCS.out, cellsB_length]; exact hlen.out
          obtain ⟨R, hR⟩ : ∃ R, R = laidRow (upto yss j) N := ⟨_, rfl⟩
          rw [← hR] at HG
          have HRL := Lib.hid (laidRow_length (upto yss j) N hb0)
          rw [← hR] at HRL
          have HSP := Lib.hid (laidRow_splice (upto yss j) ys N)
          rw [← hR, ← HCS.out, ← HS.out] at HSP
          have HR := Lib.hid hR
          clear hR
          obtain ⟨s0, hs0⟩ : ∃ s0, s0 = (upto yss j).length := ⟨_, rfl⟩
          rw [← hs0] at HL hb1 hb0 HSP ⊢
          have HS0 := Lib.hid hs0
          clear hs0
          have hb2 : s0 + n ≤ 281474976710656 := by omega
          by_cases hcap : s0 = N
          · subst hcap
            obtain rfl : n = 0 := by omega
            go_wp2_with (with_reducible refine wpList_copy_splice rfl (.tmp 32) (.tmp 33) 80 80 rfl 5 Try.underlying80 size5 _ _ _ _ _ _ rfl rfl w.heap.size s0 R 5 HG.out cs (by rw [hcl.out]; exact (Nat.min_eq_left (by omega)).symm) (fun hp => absurd hp (by rw [hcl.out]; omega)) (by rw [hcl.out, HRL.out]; omega) HCO.out w.heap.size w hB (Nat.le_refl _) ?_; intro w2 HG2 hB2; rw [HSP.out] at HG2; rw [hcl.out])
            go_roundw
            case rel => exact ⟨j + 1, by omega, by go_num, by rw [HL.out]; go_num, HG2, hB2⟩
            case measure => simp [intOf]; omega
          · have hcap' : ¬ N = s0 := fun h => hcap h.symm
            clear hcap
            go_wp2_with (with_reducible refine wpList_copy_splice rfl (.tmp 32) (.tmp 33) 80 80 rfl 5 Try.underlying80 size5 _ _ _ _ _ _ rfl rfl w.heap.size s0 R 5 HG.out cs (by rw [hcl.out]; exact (Nat.min_eq_left (by omega)).symm) (fun hp => ⟨rfl, hsrc.out hp⟩) (by rw [hcl.out, HRL.out]; omega) HCO.out w.heap.size w hB (Nat.le_refl _) ?_; intro w2 HG2 hB2; rw [HSP.out] at HG2; rw [hcl.out])
            go_roundw
            case rel => exact ⟨j + 1, by omega, by go_num, by rw [HL.out]; go_num, HG2, hB2⟩
            case measure => simp [intOf]; omega
        · obtain rfl : j = k := by omega
          have HA := Lib.hid (show laidRow (upto yss j) N = cellsB yss.flatten by rw [upto_all yss j (by rw [hr.len, HM.out]; omega), ← HN.out, laidRow_full])
          go_wp2
          go_ret
          exact ⟨rfl, by rw [← HA.out]; exact HG.out, hB⟩
end Go.Proofs.Ytogmfhofdjiihaa

namespace Go.Proofs.Ytogmfhofdjiihaa
open Go.RowKit
set_option linter.unusedVariables false

theorem getD2_0 {α : Type} (a b : α) (d : α) : [a, b].getD 0 d = a := rfl
theorem getD2_1 {α : Type} (a b : α) (d : α) : [a, b].getD 1 d = b := rfl

/-- two lists in a block of their own -/
theorem Row.two {w : World} {g : Nat} {t : TypeId} {a0 a1 : Option Addr} {n0 c0 n1 c1 : Nat} {xs ys : List Int}
    (hg : w.heap[g]? = some (.cells #[.slice a0 n0 c0, .slice a1 n1 c1] t (0, 0))) (h0 : Bs w w.heap.size a0 n0 xs) (h1 : Bs w w.heap.size a1 n1 ys) :
    Row w (some ⟨g, 0, none⟩) [(a0, n0, c0), (a1, n1, c1)] [xs, ys] := by
  refine ⟨rfl, fun i hi => ?_, fun _ => ⟨g, 0, rfl, (Array.getElem?_eq_some_iff.1 hg).1, fun i hi => ?_⟩⟩
  · match i, hi with
    | 0, _ => exact h0
    | 1, _ => exact h1
  · rw [cell_of_row w g _ _ _ _ hg]
    match i, hi with
    | 0, _ => rfl
    | 1, _ => rfl
theorem Row.one {w : World} {g : Nat} {t : TypeId} {a0 : Option Addr} {n0 c0 : Nat} {xs : List Int}
    (hg : w.heap[g]? = some (.cells #[.slice a0 n0 c0] t (0, 0))) (h0 : Bs w w.heap.size a0 n0 xs) :
    Row w (some ⟨g, 0, none⟩) [(a0, n0, c0)] [xs] := by
  refine ⟨rfl, fun i hi => ?_, fun _ => ⟨g, 0, rfl, (Array.getElem?_eq_some_iff.1 hg).1, fun i hi => ?_⟩⟩
  · match i, hi with
    | 0, _ => exact h0
  · rw [cell_of_row w g _ _ _ _ hg]
    match i, hi with
    | 0, _ => rfl
theorem Row.three {w : World} {g : Nat} {t : TypeId} {a0 a1 a2 : Option Addr} {n0 c0 n1 c1 n2 c2 : Nat} {xs ys zs : List Int}
    (hg : w.heap[g]? = some (.cells #[.slice a0 n0 c0, .slice a1 n1 c1, .slice a2 n2 c2] t (0, 0))) (h0 : Bs w w.heap.size a0 n0 xs) (h1 : Bs w w.heap.size a1 n1 ys) (h2 : Bs w w.heap.size a2 n2 zs) :
    Row w (some ⟨g, 0, none⟩) [(a0, n0, c0), (a1, n1, c1), (a2, n2, c2)] [xs, ys, zs] := by
  refine ⟨rfl, fun i hi => ?_, fun _ => ⟨g, 0, rfl, (Array.getElem?_eq_some_iff.1 hg).1, fun i hi => ?_⟩⟩
  · match i, hi with
    | 0, _ => exact h0
    | 1, _ => exact h1
    | 2, _ => exact h2
  · rw [cell_of_row w g _ _ _ _ hg]
    match i, hi with
    | 0, _ => rfl
    | 1, _ => rfl
    | 2, _ => rfl

theorem mod_byte (x : Int) : 0 ≤ x % 256 ∧ x % 256 < 256 := by omega

theorem join2 (A0 A1 : Option Addr) (n0 c0 n1 c1 g : Nat) (t : TypeId) (xs ys : List Int) (w : World) (hN : n0 + n1 ≤ 281474976710656)
    (hg : w.heap[g]? = some (.cells #[.slice A0 n0 c0, .slice A1 n1 c1] t (0, 0))) (h0 : Bs w w.heap.size A0 n0 xs) (h1 : Bs w w.heap.size A1 n1 ys) :
    Calls Try.prog 70 #[.slice (some ⟨g, 0, none⟩) 2 2] w fun e w' => ∃ v, e = .returned v ∧ NewB 5 w (n0 + n1) (xs ++ ys) v w' := by
  refine (join_any (some ⟨g, 0, none⟩) 2 2 _ _ (n0 + n1) w rfl (by omega) (Row.two hg h0 h1) (by simp [h0.len, h1.len]) hN).mono ?_
  rintro e w' ⟨rfl, hb, hB⟩
  rw [show [xs, ys].flatten = xs ++ ys by simp] at hb
  exact ⟨_, rfl, _, rfl, Nat.le_refl _, hb, by simp [h0.len, h1.len], h0.all.append h1.all, hB⟩
theorem join1 (A0 : Option Addr) (n0 c0 g : Nat) (t : TypeId) (xs : List Int) (w : World) (hN : n0 ≤ 281474976710656)
    (hg : w.heap[g]? = some (.cells #[.slice A0 n0 c0] t (0, 0))) (h0 : Bs w w.heap.size A0 n0 xs) :
    Calls Try.prog 70 #[.slice (some ⟨g, 0, none⟩) 1 1] w fun e w' => ∃ v, e = .returned v ∧ NewB 5 w n0 xs v w' := by
  refine (join_any (some ⟨g, 0, none⟩) 1 1 _ _ n0 w rfl (by omega) (Row.one hg h0) (by simp [h0.len]) hN).mono ?_
  rintro e w' ⟨rfl, hb, hB⟩
  rw [show [xs].flatten = xs by simp] at hb
  exact ⟨_, rfl, _, rfl, Nat.le_refl _, hb, h0.len, h0.all, hB⟩
theorem join3 (A0 A1 A2 : Option Addr) (n0 c0 n1 c1 n2 c2 g : Nat) (t : TypeId) (xs ys zs : List Int) (w : World) (hN : n0 + n1 + n2 ≤ 281474976710656)
    (hg : w.heap[g]? = some (.cells #[.slice A0 n0 c0, .slice A1 n1 c1, .slice A2 n2 c2] t (0, 0))) (h0 : Bs w w.heap.size A0 n0 xs) (h1 : Bs w w.heap.size A1 n1 ys) (h2 : Bs w w.heap.size A2 n2 zs) :
    Calls Try.prog 70 #[.slice (some ⟨g, 0, none⟩) 3 3] w fun e w' => ∃ v, e = .returned v ∧ NewB 5 w (n0 + n1 + n2) (xs ++ ys ++ zs) v w' := by
  refine (join_any (some ⟨g, 0, none⟩) 3 3 _ _ (n0 + n1 + n2) w rfl (by omega) (Row.three hg h0 h1 h2) (by simp [h0.len, h1.len, h2.len]; omega) hN).mono ?_
  rintro e w' ⟨rfl, hb, hB⟩
  rw [show [xs, ys, zs].flatten = xs ++ ys ++ zs by simp] at hb
  exact ⟨_, rfl, _, rfl, Nat.le_refl _, hb, by simp [h0.len, h1.len, h2.len]; omega, (h0.all.append h1.all).append h2.all, hB⟩

theorem NewB.wider {t : TypeId} {w0 w w' : World} {n : Nat} {ys : List Int} {v : Value} (h : NewB t w n ys v w') (hb : Below w0.heap.size w0 w) : NewB t w0 n ys v w' := by
  obtain ⟨g, hv, hg, hk, hl, ha, hB⟩ := h
  exact ⟨g, hv, Nat.le_trans hb.size hg, hk, hl, ha, hb.trans (hB.mono hb.size)⟩

/-- the bytes of a number -/
def two (x : Int) : List Int := [x / 256 % 256, x % 256]
def four (x : Int) : List Int := [x / 16777216, x / 65536 % 256, x / 256 % 256, x % 256]
theorem two_all (x : Int) : AllB (two x) := .cons (by omega) (by omega) (.cons (by omega) (by omega) .nil)
theorem four_all (x : Int) (_hx : 0 ≤ x ∧ x < 4294967296) : AllB (four x) := .cons (by omega) (by omega) (.cons (by omega) (by omega) (.cons (by omega) (by omega) (.cons (by omega) (by omega) .nil)))

set_option maxHeartbeats 400000 in
theorem put32_any (A : Option Addr) (n c : Nat) (x : Int) (xs : List Int) (w : World) (hn : n ≤ 140737488355330) (hx : 0 ≤ x ∧ x < 4294967296) (hb : Bs w w.heap.size A n xs) :
    Calls Try.prog 61 #[.slice A n c, .int .u32 x] w fun e w' => ∃ v, e = .returned v ∧ NewB 5 w (n + 4) (xs ++ four x) v w' := by
  go_enter Try.func61, Try.ntmps61
  go_wp2_with fail
  have hB : Below w.heap.size w ((w.alloc (.cells #[.int .u8 (x / 16777216), .int .u8 (x / 65536 % 256), .int .u8 (x / 256 % 256), .int .u8 (x % 256)] 5)).alloc (.cells #[.slice A n c, .slice (some ⟨w.heap.size, 0, none⟩) 4 4] 80)) :=
    ((Below.refl _ _).alloc (Nat.le_refl _) _).alloc (by simp) _
  have hk : Blk ((w.alloc (.cells #[.int .u8 (x / 16777216), .int .u8 (x / 65536 % 256), .int .u8 (x / 256 % 256), .int .u8 (x % 256)] 5)).alloc (.cells #[.slice A n c, .slice (some ⟨w.heap.size, 0, none⟩) 4 4] 80)) 5 w.heap.size (four x) := (Blk.new w 5 (four x)).alloc _
  refine (join2 A (some ⟨w.heap.size, 0, none⟩) n c 4 4 (w.heap.size + 1) 80 xs (four x) _ (by omega) ?_ ((hb.below hB).more (by simp; omega)) (hk.bs (four_all x hx) (by simp; omega) rfl)).mono ?_
  · have := heap_alloc_new (w.alloc (.cells #[.int .u8 (x / 16777216), .int .u8 (x / 65536 % 256), .int .u8 (x / 256 % 256), .int .u8 (x % 256)] 5)) (.cells #[.slice A n c, .slice (some ⟨w.heap.size, 0, none⟩) 4 4] 80 (0, 0))
    simpa using this
  · rintro e w' ⟨v, rfl, hnew⟩
    have hnew := Lib.hid (hnew.wider hB)
    clear hB hk
    go_wp2
    go_ret
    exact ⟨v, rfl, hnew.out⟩

end Go.Proofs.Ytogmfhofdjiihaa

namespace Go.Proofs.Ytogmfhofdjiihaa
open Go.RowKit
set_option linter.unusedVariables false

/-- a slice of bytes turned into a string -/
theorem conv_blk {w : World} {g n c : Nat} {ys : List Int} (h : Blk w 5 g ys) (hn : ys.length = n) :
    (convert 80 9 (.slice (some ⟨g, 0, none⟩) n c)).run Try.prog w = .ok (.string (strOfNums ys)) w :=
  run_convert_bytes_arg w 80 5 Try.underlying80 Try.underlying5 g 0 n c ys hn
    (fun i hi => by rw [Nat.zero_add, h.cell i, cellsB_get (by omega)]) 9 Try.underlying9
theorem conv_bs {w : World} {B n c : Nat} {A : Option Addr} {ys : List Int} (h : Bs w B A n ys) :
    (convert 80 9 (.slice A n c)).run Try.prog w = .ok (.string (strOfNums ys)) w := by
  rcases Nat.eq_zero_or_pos n with h0 | h0
  · subst h0
    obtain rfl : ys = [] := List.eq_nil_of_length_eq_zero h.len
    cases A with
    | none => exact run_convert_bytes_nil w 80 5 Try.underlying80 Try.underlying5 0 c 9 Try.underlying9
    | some a =>
      rw [run_convert_bytes_string w 80 9 5 _ 0 c Try.underlying80 Try.underlying5 Try.underlying9]
      exact run_bytesToString w a 0 c [] (by simpa using run_loadCells_list (P := Try.prog) w a [] (fun _ _ h => by simp at h))
  · obtain ⟨b, o, rfl, _, hc⟩ := h.mem h0
    exact run_convert_bytes_arg w 80 5 Try.underlying80 Try.underlying5 b o n c ys h.len hc 9 Try.underlying9

theorem str_append (xs ys : List Int) : strOfNums (xs ++ ys) = strOfNums xs ++ strOfNums ys := by
  apply ByteArray.ext
  simp [strOfNums, ByteArray.data_append]

theorem below_drewN {B : Nat} {a w : World} (h : Below B a w) (n : Nat) : Below B a (w.drewN n) := ⟨h.os, h.tape, h.output, h.size, h.block⟩

end Go.Proofs.Ytogmfhofdjiihaa

namespace Go.Proofs.Ytogmfhofdjiihaa
open Go.RowKit
set_option linter.unusedVariables false

def is_ (n : Nat) (p k : Int) : Bool := decide (0 ≤ p ∧ 0 ≤ k ∧ p + k ≤ n)
def val2 (xs : List Int) (n : Nat) (p : Int) : Int := if 0 ≤ p ∧ p + 2 ≤ n then num2 xs p.toNat else 0
def val4 (xs : List Int) (n : Nat) (p : Int) : Int := if 0 ≤ p ∧ p + 4 ≤ n then num4 xs p.toNat else 0
def cutL (xs : List Int) (n : Nat) (p k : Int) : List Int := if 0 ≤ p ∧ 0 ≤ k ∧ p + k ≤ n then (xs.drop p.toNat).take k.toNat else []

theorem ret2 {a b : Int} {x y : Bool} {k : IntKind} (h : a = b) (g : x = y) : Ending.returned (.tuple #[.int k a, .bool x]) = .returned (.tuple #[.int k b, .bool y]) := by rw [h, g]

section
variable (A : Option Addr) (n c : Nat) (p k : Int) (xs : List Int) (w : World) (hn : n ≤ 140737488355328) (hp : i64ok p) (hb : Bs w w.heap.size A n xs)
include hn hp hb

end

/-- a list of bytes is handed back, and a bool -/
def GivesB (w : World) (ys : List Int) (ok : Bool) (e : Ending) (w' : World) : Prop :=
  ∃ A' k' c', e = .returned (.tuple #[.slice A' k' c', .bool ok]) ∧ Bs w' w'.heap.size A' k' ys ∧ Below w.heap.size w w'

end Go.Proofs.Ytogmfhofdjiihaa

namespace Go.Proofs.Ytogmfhofdjiihaa
open Go.RowKit
set_option linter.unusedVariables false

theorem i64_and65535 (n : Int) : bits .and .i64 n 65535 = n % 65536 := by
  have h : (BitVec.ofInt 64 n &&& BitVec.ofInt 64 65535).toNat = (n % 65536).toNat := by
    rw [BitVec.toNat_and, BitVec.toNat_ofInt, show (BitVec.ofInt 64 65535).toNat = 2 ^ 16 - 1 by decide, Nat.and_two_pow_sub_one_eq_mod]
    omega
  show IntKind.i64.wrap ((BitVec.ofInt 64 n &&& BitVec.ofInt 64 65535).toNat : Int) = _
  rw [h, IntKind.wrap_i64]
  omega

set_option maxHeartbeats 400000 in
theorem rtwo_any (x : Int) (w : World) (hx : i64ok x) :
    Calls Try.prog 64 #[.int .i64 x] w fun e w' => ∃ v, e = .returned v ∧ NewB 5 w 2 (two x) v w' := by
  unfold i64ok at hx
  have hand := i64_and65535 x
  obtain ⟨y, hy⟩ : ∃ y, y = x % 65536 := ⟨_, rfl⟩
  have hy0 : 0 ≤ y ∧ y < 65536 := by omega
  rw [← hy] at hand
  have HY := Lib.hid (show two x = [y / 256, y % 256] by unfold two; congr 1; omega; congr 1; omega)
  clear hy
  go_enter Try.func64, Try.ntmps64
  go_wp2
  go_ret
  refine ⟨_, rfl, w.heap.size, rfl, Nat.le_refl _, ?_, rfl, two_all x, (Below.refl _ _).alloc (Nat.le_refl _) _⟩
  rw [HY.out]
  exact Blk.new w 5 [y / 256, y % 256]

theorem four_two (x : Int) (hx : 0 ≤ x ∧ x < 4294967296) : two (x / 65536) ++ two (x % 65536) = four x := by
  unfold two four
  simp only [List.cons_append, List.nil_append]
  congr 1
  · omega
  · congr 1
    congr 1
    · omega
    · congr 1
      omega

set_option maxHeartbeats 400000 in
theorem rfour_any (x : Int) (w : World) (hx : 0 ≤ x ∧ x < 4294967296) :
    Calls Try.prog 54 #[.int .u32 x] w fun e w' => ∃ A c, e = .returned (.slice A 4 c) ∧ Bs w' w'.heap.size A 4 (four x) ∧ Below w.heap.size w w' := by
  obtain ⟨i0, hi, hz0, hz1, hz2⟩ := info_parts info5
  have HI := Lib.hid hi
  have HZ0 := Lib.hid hz0
  have HZ1 := Lib.hid hz1
  have HZ2 := Lib.hid hz2
  clear hi hz0 hz1 hz2
  go_enter Try.func54, Try.ntmps54
  go_wp2_with fail
  refine (rtwo_any (x / 65536) w (by unfold i64ok; omega)).mono ?_
  rintro e w1 ⟨v, rfl, g1, rfl, hg1, hk1, hl1, ha1, hB1⟩
  go_wp2_with fail
  refine (rtwo_any (x % 65536) w1 (by unfold i64ok; omega)).mono ?_
  rintro e w2 ⟨v, rfl, g2, rfl, hg2, hk2, hl2, ha2, hB2⟩
  have hB := hB1.trans (hB2.mono hB1.size)
  have hO := OwnB.ofBlk (base := w.heap.size) (hk1.below hB2 hk1.lt) ha1 hg1 hl1 (by simp only [maxLen]; omega)
  have hs := hk2.bs ha2 hk2.lt hl2
  clear hB1 hB2 hk1 hk2 hg1 hg2 hl1 hl2
  go_wp2_with (at_builtin; refine wpList_append_bs rfl (.tmp 6) (.tmp 10) _ rfl w.heap.size 5 i0 Try.underlying80 HI.out HZ0.out HZ1.out HZ2.out _ 2 2 (two (x / 65536)) rfl hO _ 2 2 w2.heap.size (two (x % 65536)) rfl hs (by omega) hB.size ?_; intro A3 c3 w3 hO3 hg3 hb3)
  go_ret
  refine ⟨A3, c3, rfl, ?_, hB.grown hg3 hB.size (fun k hk => (hO.lt k hk).1)⟩
  rw [← four_two x hx]
  exact hO3.bs (Nat.le_refl _)

theorem set_two (xs : List Int) (p : Nat) (x y : Int) (h : p + 2 ≤ xs.length) : (xs.set p x).set (p + 1) y = xs.take p ++ [x, y] ++ xs.drop (p + 2) := by
  apply List.ext_getElem?
  intro i
  simp only [List.append_assoc, List.cons_append, List.nil_append]
  rcases Nat.lt_or_ge i p with h1 | h1
  · rw [List.getElem?_append_left (by simp; omega)]
    simp [show ¬ p + 1 = i by omega, show ¬ p = i by omega, h1]
  · rw [List.getElem?_append_right (by simp; omega), List.length_take, Nat.min_eq_left (by omega)]
    rcases Nat.lt_or_ge i (p + 1) with h2 | h2
    · obtain rfl : i = p := by omega
      simp [show i < xs.length by omega]
    · rcases Nat.lt_or_ge i (p + 2) with h3 | h3
      · obtain rfl : i = p + 1 := by omega
        simp [show p + 1 < xs.length by omega]
      · obtain ⟨j, rfl⟩ : ∃ j, i = p + 2 + j := ⟨i - (p + 2), by omega⟩
        rw [show p + 2 + j - p = j + 2 by omega]
        simp [show ¬ p + 1 = p + 2 + j by omega, show ¬ p = p + 2 + j by omega]

end Go.Proofs.Ytogmfhofdjiihaa
