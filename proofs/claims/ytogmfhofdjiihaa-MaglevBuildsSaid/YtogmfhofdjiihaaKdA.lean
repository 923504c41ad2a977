/- Stage 15's hash as the page says it, as a function of numbers: rotated, a round, a word taken, what comes of the four words; the words of bytes. No program here; no condition. -/
import Derived.Test.YtogmfhofdjiihaaJOct
import Derived.Lib.EndianBits
set_option maxRecDepth 100000
namespace Go.Proofs.Ytogmfhofdjiihaa
open Go.RowKit
set_option linter.unusedVariables false

def addK (x y : Int) : Int := IntKind.u64.wrap (x + y)
def xorK (x y : Int) : Int := bits .xor .u64 x y
/-- rotated to the left by s -/
def rotK (x : Int) (s : Nat) : Int := bits .or .u64 (IntKind.u64.wrap (x * 2 ^ s)) (x / 2 ^ (64 - s))
/-- the four words -/
structure V4 where
  a : Int
  b : Int
  c : Int
  d : Int
/-- a round -/
def roundK (v : V4) : V4 :=
  let a1 := addK v.a v.b
  let b1 := xorK (rotK v.b 13) a1
  let a2 := rotK a1 32
  let c1 := addK v.c v.d
  let d1 := xorK (rotK v.d 16) c1
  let a3 := addK a2 d1
  let d2 := xorK (rotK d1 21) a3
  let c2 := addK c1 b1
  let b2 := xorK (rotK b1 17) c2
  ⟨a3, b2, rotK c2 32, d2⟩
def roundsK : Nat → V4 → V4
  | 0, v => v
  | n + 1, v => roundK (roundsK n v)
/-- a word is taken -/
def takeK (v : V4) (m : Int) : V4 :=
  let u := roundsK 2 { v with d := xorK v.d m }
  { u with a := xorK u.a m }
/-- what comes of the four words -/
def hashK (v : V4) : Int :=
  let u := roundsK 4 { v with c := xorK v.c 255 }
  xorK (xorK (xorK u.a u.b) u.c) u.d
def beginK (A B : Int) : V4 := ⟨xorK A 8317987319222330741, xorK B 7237128888997146477, xorK A 7816392313619706465, xorK B 8387220255154660723⟩
/-- the first byte is lowest -/
def leK : List Int → Int
  | [] => 0
  | x :: xs => x + 256 * leK xs
def chunkK (xs : List Int) (i : Nat) : Int := leK ((xs.drop (8 * i)).take 8)
/-- the last word -/
def lastK (xs : List Int) : Int := leK (xs.drop (8 * (xs.length / 8))) + (xs.length % 256 : Nat) * 72057594037927936
def wordsK (xs : List Int) : List Int := (List.range (xs.length / 8)).map (chunkK xs) ++ [lastK xs]
def sumK (A B : Int) (xs : List Int) : Int := hashK ((wordsK xs).foldl takeK (beginK A B))
/-- a hash as a number below n -/
def modK (u n : Int) : Int := if n < 1 then 0 else wrap64 (u.tmod n)

theorem leK_snoc : ∀ (l : List Int) (x : Int), leK (l ++ [x]) = leK l + 256 ^ l.length * x
  | [], x => by simp [leK]
  | y :: l, x => by
    have h := leK_snoc l x
    simp only [List.cons_append, leK, h, List.length_cons]
    rw [Int.pow_succ, Int.mul_add, Int.mul_comm (256 ^ l.length) 256, Int.mul_assoc]
    omega
theorem leK_low : ∀ (l : List Int), AllB l → 0 ≤ leK l ∧ leK l < 256 ^ l.length
  | [], _ => by simp [leK]
  | y :: l, h => by
    have h1 := h y (List.mem_cons_self ..)
    have h2 := leK_low l (fun z hz => h z (List.mem_cons_of_mem _ hz))
    simp only [leK, List.length_cons]
    rw [Int.pow_succ]
    omega
theorem leK_step (l : List Int) (k : Nat) (h : k < l.length) : leK (l.take (k + 1)) = leK (l.take k) + 256 ^ k * l.getD k 0 := by
  have e : l.take (k + 1) = l.take k ++ [l.getD k 0] := by
    rw [List.take_succ_eq_append_getElem h]
    simp [List.getD, h]
  rw [e, leK_snoc, List.length_take, Nat.min_eq_left (by omega)]
theorem leK_drop (l : List Int) (k : Nat) (h : k < l.length) : leK (l.drop k) = l.getD k 0 + 256 * leK (l.drop (k + 1)) := by
  rw [List.drop_eq_getElem_cons h]
  simp [leK, List.getD, h]
/-- a byte is put above k others -/
theorem or_byteK (k : Nat) (hk : k < 8) (y x : Int) (hy : 0 ≤ y) (hy1 : y < 256 ^ k) (hx : 0 ≤ x) (hx1 : x < 256) : bits .or .u64 y (IntKind.u64.wrap (x * 2 ^ (8 * k))) = y + 256 ^ k * x := by
  have e : (2 : Int) ^ (8 * k) = 256 ^ k := by rw [Int.pow_mul]; rfl
  rw [e]
  have hc : k = 0 ∨ k = 1 ∨ k = 2 ∨ k = 3 ∨ k = 4 ∨ k = 5 ∨ k = 6 ∨ k = 7 := by omega
  have hp : (0 : Int) < 256 ^ k := Int.pow_pos (by decide)
  have hm : x * 256 ^ k < 2 ^ 64 := by
    rcases hc with rfl | rfl | rfl | rfl | rfl | rfl | rfl | rfl <;> simp at * <;> omega
  have hm0 : 0 ≤ x * 256 ^ k := Int.mul_nonneg hx (Int.le_of_lt hp)
  rw [wraps_u64 _ hm0 hm, Int.mul_comm (256 ^ k) x]
  have hy64 : y < 2 ^ 64 := by
    rcases hc with rfl | rfl | rfl | rfl | rfl | rfl | rfl | rfl <;> simp at * <;> omega
  exact bits_join_low .u64 64 (by decide) wraps_u64 (8 * k) y (x * 256 ^ k) hy (by rw [e]; exact hy1) hy64 hm0 (by rw [e]; exact Int.mul_emod_left _ _) hm
theorem chunkK_last (xs : List Int) : chunkK xs (xs.length / 8) = leK (xs.drop (8 * (xs.length / 8))) := by
  unfold chunkK
  rw [List.take_of_length_le (by simp; omega)]
theorem leK_small (xs : List Int) (ha : AllB xs) (j : Nat) (h : xs.length ≤ j) : 0 ≤ leK xs ∧ leK xs < 256 ^ j := by
  obtain ⟨h0, h1⟩ := leK_low xs ha
  exact ⟨h0, Int.lt_of_lt_of_le h1 (by exact_mod_cast Nat.pow_le_pow_right (n := 256) (by decide) h)⟩
theorem chunkK_low (xs : List Int) (ha : AllB xs) (i : Nat) : 0 ≤ chunkK xs i ∧ chunkK xs i < 18446744073709551616 :=
  leK_small _ ((ha.drop _).take _) 8 (by simp; omega)
theorem last_low (xs : List Int) (ha : AllB xs) : 0 ≤ leK (xs.drop (8 * (xs.length / 8))) ∧ leK (xs.drop (8 * (xs.length / 8))) < 72057594037927936 :=
  leK_small _ (ha.drop _) 7 (by simp; omega)
/-- the words taken so far -/
def doneK (A B : Int) (xs : List Int) (k : Nat) : V4 := ((List.range k).map (chunkK xs)).foldl takeK (beginK A B)
theorem doneK_zero (A B : Int) (xs : List Int) : doneK A B xs 0 = beginK A B := rfl
theorem doneK_succ (A B : Int) (xs : List Int) (k : Nat) : doneK A B xs (k + 1) = takeK (doneK A B xs k) (chunkK xs k) := by
  unfold doneK
  rw [List.range_succ, List.map_append, List.foldl_append]
  rfl
theorem sumK_done (A B : Int) (xs : List Int) : sumK A B xs = hashK (takeK (doneK A B xs (xs.length / 8)) (lastK xs)) := by
  unfold sumK wordsK doneK
  rw [List.foldl_append]
  rfl
theorem sum_none : sumK 506097522914230528 1084818905618843912 [] = 8246050544436514353 := by decide +kernel
theorem sum_some : sumK 506097522914230528 1084818905618843912 [0, 1, 2, 3, 4, 5, 6, 7, 8, 9, 10, 11, 12, 13, 14] = 11613035633349379557 := by decide +kernel
end Go.Proofs.Ytogmfhofdjiihaa
