/- Texts joined.
  What cksum.low16, Join, Not and Update, and the document's own answers for them, tell, for any ints. No condition.
  Sums of 16 bits as numbers: what is joined is the whole sum, folded; parts of an even length add up. No condition.
  What cksum.Sum, and the document's own Sum, tell of any bytes. Condition: the slice is at most 2^47 bytes long (less 4096 for the document's).
  What cksum.total tells of lists of bytes: their sums, joined. Conditions: the lists are at most 2^47 bytes long.
  What cksum.Pseudo, whole, Check and Fine tell. Conditions: the addresses are 16 bytes each, numbers are ints, the slice is at most 2^47 bytes long.
  What cksum.whole, Check and Fine tell. Conditions: the addresses are 16 bytes each, numbers are ints, the slice is at most 2^47 bytes long.
  What the document's own Pseudo, Check and Fine tell. Conditions: the addresses are 16 bytes each, numbers are ints, the slice is at most 2^47 - 4096 bytes long.
  What the laws' own small test of layer 2, 'lives', answers: true. No condition.
  Two addresses in one struct: its halves are read whole. And the law of a check that is put in. No condition.
-/
import Derived.Test.YtcfppidobenbfaaJOct
import Derived.Test.YtcfppidobenbfaaVals
import Derived.Test.YtcfppidobenbfaaJReg
import Derived.Laws.Rows
import Derived.Deep.MidRow
set_option maxRecDepth 100000
namespace Go.Proofs.Ytcfppidobenbfaa
open Go.RowKit

/-- two joined, what is missing of one, what a check becomes -/
def jn (a b : Int) : Int := if 65535 < a % 65536 + b % 65536 then a % 65536 + b % 65536 - 65535 else a % 65536 + b % 65536
def nt (s : Int) : Int := 65535 - s % 65536
def upd (check was is : Int) : Int := nt (jn (jn (nt check) (nt was)) is)

theorem and65535 (n : Int) : bits .and .i64 n 65535 = n % 65536 := by
  have h : (BitVec.ofInt 64 n &&& BitVec.ofInt 64 65535).toNat = (n % 65536).toNat := by
    rw [BitVec.toNat_and, BitVec.toNat_ofInt, show (BitVec.ofInt 64 65535).toNat = 2 ^ 16 - 1 by decide, Nat.and_two_pow_sub_one_eq_mod]
    omega
  show IntKind.i64.wrap ((BitVec.ofInt 64 n &&& BitVec.ofInt 64 65535).toNat : Int) = _
  rw [h, IntKind.wrap_i64]
  omega

theorem jn_range (a b : Int) : 0 ≤ jn a b ∧ jn a b ≤ 65535 := by unfold jn; split <;> omega
theorem nt_range (s : Int) : 0 ≤ nt s ∧ nt s ≤ 65535 := by unfold nt; omega

end Go.Proofs.Ytcfppidobenbfaa

namespace Go.Proofs.Ytcfppidobenbfaa

/-- all numbers of two bytes together; behind a last byte that is alone a byte 0 is thought -/
def tot : List Int → Int
  | [] => 0
  | [x] => x * 256
  | x :: y :: r => x * 256 + y + tot r
def fold (n : Int) : Int := if n = 0 then 0 else (n - 1) % 65535 + 1
def sumL (xs : List Int) : Int := fold (tot xs)

theorem fold_range (n : Int) : 0 ≤ fold n ∧ fold n ≤ 65535 := by unfold fold; split <;> omega
theorem fold_small {n : Int} (h : 0 ≤ n) (k : n ≤ 65535) : fold n = n := by unfold fold; split <;> omega
theorem jn_fold {a b : Int} (ha : 0 ≤ a) (hb : 0 ≤ b) : jn (fold a) (fold b) = fold (a + b) := by
  have h1 := fold_range a
  have h2 := fold_range b
  unfold jn
  rw [Int.emod_eq_of_lt h1.1 (by omega), Int.emod_eq_of_lt h2.1 (by omega)]
  by_cases h3 : a = 0
  · subst h3
    have e : fold 0 = 0 := rfl
    rw [e, Int.zero_add, Int.zero_add, if_neg (by omega)]
  · by_cases h4 : b = 0
    · subst h4
      have e : fold 0 = 0 := rfl
      rw [e, Int.add_zero, Int.add_zero, if_neg (by omega)]
    · have ea : fold a = (a - 1) % 65535 + 1 := if_neg h3
      have eb : fold b = (b - 1) % 65535 + 1 := if_neg h4
      have es : fold (a + b) = (a + b - 1) % 65535 + 1 := if_neg (by omega)
      rw [ea, eb, es]
      split <;> omega
theorem jn_fold_num {a b : Int} (ha : 0 ≤ a) (hb : 0 ≤ b) (hb2 : b ≤ 65535) : jn (fold a) b = fold (a + b) := by
  have := jn_fold ha hb
  rwa [fold_small hb hb2] at this
theorem jn_mod_right (a b : Int) : jn a (b % 65536) = jn a b := by unfold jn; rw [Int.emod_emod_of_dvd _ (by decide)]
theorem fold_full {a : Int} (h : 0 < a) : fold (a + 65535) = fold a := by unfold fold; rw [if_neg (by omega), if_neg (by omega)]; omega

theorem tot_append : ∀ (xs ys : List Int), xs.length % 2 = 0 → tot (xs ++ ys) = tot xs + tot ys
  | [], ys, _ => by simp [tot]
  | [x], ys, h => by simp at h
  | x :: y :: r, ys, h => by
    have := tot_append r ys (by simp at h; omega)
    simp only [List.cons_append, tot, this]
    omega
theorem tot_nonneg : ∀ (xs : List Int), AllB xs → 0 ≤ tot xs
  | [], _ => by simp [tot]
  | [x], h => by have := h x (by simp); simp only [tot]; omega
  | x :: y :: r, h => by
    have h1 := h x (by simp)
    have h2 := h y (by simp)
    have h3 := tot_nonneg r (fun z hz => h z (by simp [hz]))
    simp only [tot]; omega
theorem tot_zero : ∀ (xs : List Int), AllB xs → zerosB xs = false → 0 < tot xs
  | [], _, h => by simp [zerosB] at h
  | [x], h, k => by have := h x (by simp); simp [zerosB] at k; simp only [tot]; omega
  | x :: y :: r, h, k => by
    have h1 := h x (by simp)
    have h2 := h y (by simp)
    have h3 := tot_nonneg r (fun z hz => h z (by simp [hz]))
    simp only [tot]
    by_cases h4 : zerosB r = false
    · have := tot_zero r (fun z hz => h z (by simp [hz])) h4
      omega
    · simp only [Bool.not_eq_false] at h4
      have : ¬ (x = 0 ∧ y = 0) := by
        rintro ⟨rfl, rfl⟩
        simp only [zerosB, List.all_cons] at k h4
        rw [h4] at k
        simp at k
      omega
theorem tot_last0 : ∀ (xs : List Int), xs.length % 2 = 1 → tot (xs ++ [0]) = tot xs
  | [], h => by simp at h
  | [x], _ => by simp [tot]
  | x :: y :: r, h => by
    have := tot_last0 r (by simp at h; omega)
    simp only [List.cons_append, tot, this]

theorem take_two (xs : List Int) (p : Nat) (h : p + 2 ≤ xs.length) : xs.take (p + 2) = xs.take p ++ [xs.getD p 0, xs.getD (p + 1) 0] := by
  have e0 : xs.getD p 0 = xs[p] := by simp [List.getD, show p < xs.length by omega]
  have e1 : xs.getD (p + 1) 0 = xs[p + 1] := by simp [List.getD, show p + 1 < xs.length by omega]
  rw [show p + 2 = (p + 1) + 1 from rfl, List.take_succ_eq_append_getElem (by omega), List.take_succ_eq_append_getElem (by omega), e0, e1, List.append_assoc]
  rfl
theorem tot_take (xs : List Int) (k : Nat) (h : 2 * k + 2 ≤ xs.length) : tot (xs.take (2 * (k + 1))) = tot (xs.take (2 * k)) + num2 xs (2 * k) := by
  rw [show 2 * (k + 1) = 2 * k + 2 by omega, take_two xs (2 * k) h, tot_append _ _ (by simp; omega)]
  simp [tot, num2]
theorem tot_odd (xs : List Int) (k : Nat) (h : 2 * k + 1 = xs.length) : tot xs = tot (xs.take (2 * k)) + xs.getD (2 * k) 0 * 256 := by
  have e : xs = xs.take (2 * k) ++ [xs.getD (2 * k) 0] := by
    have h1 : xs.take (2 * k + 1) = xs := List.take_of_length_le (by omega)
    have h2 := List.take_succ_eq_append_getElem (l := xs) (i := 2 * k) (by omega)
    rw [h1] at h2
    have h3 : xs.getD (2 * k) 0 = xs[2 * k] := by simp [List.getD, show 2 * k < xs.length by omega]
    rw [h3]; exact h2
  have h4 := congrArg tot e
  rw [tot_append _ _ (by simp; omega)] at h4
  simpa [tot] using h4
theorem num2_range {xs : List Int} (h : AllB xs) (p : Nat) : 0 ≤ num2 xs p ∧ num2 xs p ≤ 65535 := by
  have h1 := h.getD p
  have h2 := h.getD (p + 1)
  unfold num2; omega
theorem num2_last0 (xs : List Int) (p : Nat) : num2 (xs ++ [0]) p = num2 xs p := by
  have e : ∀ i, (xs ++ [0]).getD i 0 = xs.getD i 0 := fun i => by
    simp only [List.getD]
    rcases Nat.lt_or_ge i xs.length with h | h
    · rw [List.getElem?_append_left h]
    · rw [List.getElem?_append_right h, List.getElem?_eq_none h]
      rcases Nat.eq_zero_or_pos (i - xs.length) with h0 | h0
      · rw [h0]; rfl
      · rw [List.getElem?_eq_none (by simp; omega)]
  unfold num2; rw [e, e]

/-- a step of a sum -/
theorem sum_step {xs : List Int} (ha : AllB xs) (k : Nat) (h : 2 * k + 2 ≤ xs.length) : jn (fold (tot (xs.take (2 * k)))) (num2 xs (2 * k)) = fold (tot (xs.take (2 * (k + 1)))) := by
  rw [tot_take xs k h, jn_fold_num (tot_nonneg _ (ha.take _)) (num2_range ha _).1 (num2_range ha _).2]
theorem sum_even {xs : List Int} (k : Nat) (h : xs.length ≤ 2 * k) : fold (tot (xs.take (2 * k))) = sumL xs := by rw [List.take_of_length_le h]; rfl
theorem sum_odd {xs : List Int} (ha : AllB xs) (k : Nat) (h : 2 * k + 1 = xs.length) : jn (fold (tot (xs.take (2 * k)))) (xs.getD (2 * k) 0 * 256) = sumL xs := by
  have h1 := ha.getD (2 * k)
  rw [jn_fold_num (tot_nonneg _ (ha.take _)) (by omega) (by omega), ← tot_odd xs k h]; rfl
theorem sum_append {xs ys : List Int} (hx : AllB xs) (hy : AllB ys) (h : xs.length % 2 = 0) : jn (sumL xs) (sumL ys) = sumL (xs ++ ys) := by
  unfold sumL; rw [jn_fold (tot_nonneg _ hx) (tot_nonneg _ hy), tot_append _ _ h]
theorem sumL_last0 {xs : List Int} (h : xs.length % 2 = 1) : sumL (xs ++ [0]) = sumL xs := by unfold sumL; rw [tot_last0 xs h]
theorem sumL_range (xs : List Int) : 0 ≤ sumL xs ∧ sumL xs ≤ 65535 := fold_range _
theorem sumL_nil : sumL [] = 0 := rfl

/-- two bytes replaced -/
theorem split_two (xs : List Int) (p : Nat) (h : p + 2 ≤ xs.length) : xs = xs.take p ++ [xs.getD p 0, xs.getD (p + 1) 0] ++ xs.drop (p + 2) := by
  rw [← take_two xs p h, List.take_append_drop]
theorem tot_set (xs : List Int) (p : Nat) (x y : Int) (h : p + 2 ≤ xs.length) (he : p % 2 = 0) : tot ((xs.set p x).set (p + 1) y) = tot xs - num2 xs p + (x * 256 + y) := by
  have h1 := congrArg tot (split_two xs p h)
  rw [set_two xs p x y h]
  rw [tot_append _ _ (by simp; omega), tot_append _ _ (by simp; omega)] at h1 ⊢
  simp only [tot, num2] at h1 ⊢
  omega
end Go.Proofs.Ytcfppidobenbfaa

namespace Go.Proofs.Ytcfppidobenbfaa
open Go.RowKit
set_option linter.unusedVariables false

end Go.Proofs.Ytcfppidobenbfaa

namespace Go.Proofs.Ytcfppidobenbfaa
open Go.RowKit
set_option linter.unusedVariables false

theorem Row.four {w : World} {g : Nat} {t : TypeId} {a0 a1 a2 a3 : Option Addr} {n0 c0 n1 c1 n2 c2 n3 c3 : Nat} {xs ys zs us : List Int}
    (hg : w.heap[g]? = some (.cells #[.slice a0 n0 c0, .slice a1 n1 c1, .slice a2 n2 c2, .slice a3 n3 c3] t (0, 0))) (h0 : Bs w w.heap.size a0 n0 xs) (h1 : Bs w w.heap.size a1 n1 ys) (h2 : Bs w w.heap.size a2 n2 zs) (h3 : Bs w w.heap.size a3 n3 us) :
    Row w (some ⟨g, 0, none⟩) [(a0, n0, c0), (a1, n1, c1), (a2, n2, c2), (a3, n3, c3)] [xs, ys, zs, us] := by
  refine ⟨rfl, fun i hi => ?_, fun _ => ⟨g, 0, rfl, (Array.getElem?_eq_some_iff.1 hg).1, fun i hi => ?_⟩⟩
  · match i, hi with
    | 0, _ => exact h0
    | 1, _ => exact h1
    | 2, _ => exact h2
    | 3, _ => exact h3
  · rw [cell_of_row w g _ _ _ _ hg]
    match i, hi with
    | 0, _ => rfl
    | 1, _ => rfl
    | 2, _ => rfl
    | 3, _ => rfl

/-- sums of lists, joined from 0 on -/
def jnAll (yss : List (List Int)) : Int := yss.foldl (fun s ys => jn s (sumL ys)) 0
theorem jnAll_succ (yss : List (List Int)) (k : Nat) (h : k < yss.length) : jnAll (yss.take (k + 1)) = jn (jnAll (yss.take k)) (sumL (yss.getD k [])) := by
  unfold jnAll
  rw [List.take_succ_eq_append_getElem h, List.foldl_append]
  simp [List.getD, h]
theorem jn_zero_sum (xs : List Int) : jn 0 (sumL xs) = sumL xs := by
  have := sumL_range xs
  unfold jn
  rw [if_neg (by omega)]
  omega
theorem jnAll_four {xs ys zs us : List Int} (hx : AllB xs) (hy : AllB ys) (hz : AllB zs) (hu : AllB us) (h0 : xs.length % 2 = 0) (h1 : ys.length % 2 = 0) (h2 : zs.length % 2 = 0) :
    jnAll [xs, ys, zs, us] = sumL (xs ++ ys ++ zs ++ us) := by
  show jn (jn (jn (jn 0 (sumL xs)) (sumL ys)) (sumL zs)) (sumL us) = _
  rw [jn_zero_sum, sum_append hx hy h0, sum_append (hx.append hy) hz (by rw [List.length_append]; omega), sum_append ((hx.append hy).append hz) hu (by rw [List.length_append, List.length_append]; omega)]

end Go.Proofs.Ytcfppidobenbfaa

namespace Go.Proofs.Ytcfppidobenbfaa
open Go.RowKit
set_option linter.unusedVariables false

/-- what is thought ahead -/
def pseudoL (s d : List Int) (len next : Int) : List Int := s ++ d ++ four (len % 4294967296) ++ [0, 0, 0, next % 256]

end Go.Proofs.Ytcfppidobenbfaa

namespace Go.Proofs.Ytcfppidobenbfaa
open Go.RowKit
set_option linter.unusedVariables false

/-- the check of bytes -/
def chk (s d : List Int) (next : Int) (xs : List Int) : Int := jn (sumL (pseudoL s d xs.length next)) (sumL xs)

def fineB (s d : List Int) (next : Int) (xs : List Int) : Bool := chk s d next xs == 65535
end Go.Proofs.Ytcfppidobenbfaa

namespace Go.Proofs.Ytcfppidobenbfaa
open Go.RowKit
set_option linter.unusedVariables false

/-- k bytes of src lie behind pre, in a row of the call's own -/
def GrowRel (t : TypeId) (B m : Nat) (w2 : World) (pre src : List Int) (b i : Value) (wr : World) : Prop :=
  ∃ (k q : Nat) (A : Option Addr) (c : Nat), q = m + k ∧ k ≤ 16 ∧ i = .int .i64 k ∧ b = .slice A q c ∧ OwnB t wr B A q c (pre ++ src.take k) ∧ Below B w2 wr
theorem take_one (xs : List Int) (k : Nat) (h : k < xs.length) : xs.take (k + 1) = xs.take k ++ [xs.getD k 0] := by
  rw [List.take_succ_eq_append_getElem h]
  simp [List.getD, h]
end Go.Proofs.Ytcfppidobenbfaa

namespace Go.Proofs.Ytcfppidobenbfaa
open Go.RowKit
set_option linter.unusedVariables false

def z16 : List Int := [0, 0, 0, 0, 0, 0, 0, 0, 0, 0, 0, 0, 0, 0, 0, 0]
theorem z16_all : AllB z16 := fun x hx => by simp [z16] at hx; omega

end Go.Proofs.Ytcfppidobenbfaa

namespace Go.Proofs.Ytcfppidobenbfaa
open Go.RowKit
set_option linter.unusedVariables false

/-- two addresses by value -/
def endsV (s d : List Int) : Value := .agg (cellsB (s ++ d)).toArray
theorem Blk.half1 {w : World} {t : TypeId} {g : Nat} {s d : List Int} (h : Blk w t g (s ++ d)) : w.rangeAt g 0 (cellsB s) := fun j v hv => by
  have hj : j < (cellsB s).length := (List.getElem?_eq_some_iff.1 hv).1
  rw [Nat.zero_add, h.cell j, cellsB_append, List.getElem?_append_left hj]
  exact hv
theorem Blk.half2 {w : World} {t : TypeId} {g : Nat} {s d : List Int} (h : Blk w t g (s ++ d)) (hs : s.length = 16) : w.rangeAt g 16 (cellsB d) := fun j v hv => by
  rw [h.cell (16 + j), cellsB_append, List.getElem?_append_right (by rw [cellsB_length, hs]; omega), cellsB_length, hs, show 16 + j - 16 = j by omega]
  exact hv
theorem wpList_load_half1 {ops : Array Oper} {rest : List Oper} {o : Oper} {a : Act} {w : World} {Q : Exit → Act → World → Prop} (hgd : o.guard = none) (x : Operand) (ho : o.op = .load 33 x)
    (g : Nat) (hx : a.eval x = .pointer (some ⟨g, 0, none⟩)) (t : TypeId) (s d : List Int) (h : Blk w t g (s ++ d)) (hs : s.length = 16)
    (hk : wpList Try.prog ops Q rest (a.put o.dst (.agg (cellsB s).toArray)) w) : wpList Try.prog ops Q (o :: rest) a w :=
  wpList_load_mid hgd 33 x ho g 0 hx (cellsB s) _ h.half1 Try.underlying33 rfl (by rw [addr_size]; simp [cellsB_length, hs]) hk
theorem wpList_load_half2 {ops : Array Oper} {rest : List Oper} {o : Oper} {a : Act} {w : World} {Q : Exit → Act → World → Prop} (hgd : o.guard = none) (x : Operand) (ho : o.op = .load 33 x)
    (g : Nat) (hx : a.eval x = .pointer (some ⟨g, 16, none⟩)) (t : TypeId) (s d : List Int) (h : Blk w t g (s ++ d)) (hs : s.length = 16) (hd : d.length = 16)
    (hk : wpList Try.prog ops Q rest (a.put o.dst (.agg (cellsB d).toArray)) w) : wpList Try.prog ops Q (o :: rest) a w :=
  wpList_load_mid hgd 33 x ho g 16 hx (cellsB d) _ (h.half2 hs) Try.underlying33 rfl (by rw [addr_size]; simp [cellsB_length, hd]) hk

theorem wpList_load_half1_g {ops : Array Oper} {rest : List Oper} {o : Oper} {a : Act} {w : World} {Q : Exit → Act → World → Prop} (hw : Region.wanted o (yielded ops a.tmps) = true) (x : Operand) (ho : o.op = .load 33 x)
    (g : Nat) (hx : a.eval x = .pointer (some ⟨g, 0, none⟩)) (t : TypeId) (s d : List Int) (h : Blk w t g (s ++ d)) (hs : s.length = 16)
    (hk : wpList Try.prog ops Q rest (a.put o.dst (.agg (cellsB s).toArray)) w) : wpList Try.prog ops Q (o :: rest) a w :=
  wpList_step fun K hK => by
    simp only [hw, if_true]
    exact wp_load_mid 33 x ho g 0 hx (cellsB s) _ h.half1 Try.underlying33 rfl (by rw [addr_size]; simp [cellsB_length, hs]) (hK _ _ hk)
theorem wpList_load_half2_g {ops : Array Oper} {rest : List Oper} {o : Oper} {a : Act} {w : World} {Q : Exit → Act → World → Prop} (hw : Region.wanted o (yielded ops a.tmps) = true) (x : Operand) (ho : o.op = .load 33 x)
    (g : Nat) (hx : a.eval x = .pointer (some ⟨g, 16, none⟩)) (t : TypeId) (s d : List Int) (h : Blk w t g (s ++ d)) (hs : s.length = 16) (hd : d.length = 16)
    (hk : wpList Try.prog ops Q rest (a.put o.dst (.agg (cellsB d).toArray)) w) : wpList Try.prog ops Q (o :: rest) a w :=
  wpList_step fun K hK => by
    simp only [hw, if_true]
    exact wp_load_mid 33 x ho g 16 hx (cellsB d) _ (h.half2 hs) Try.underlying33 rfl (by rw [addr_size]; simp [cellsB_length, hd]) (hK _ _ hk)
theorem exec_half1 {f : Operand → Value} {dd : Option Tmp} {x : Operand} {ty : TypeId} {pos : String} {gd : Option (Nat × Bool)} {w : World} {t : TypeId} {g : Nat} {s d : List Int} (hx : f x = .pointer (some ⟨g, 0, none⟩)) (h : Blk w t g (s ++ d)) (hs : s.length = 16) :
    (execOp f ⟨dd, .load 33 x, ty, pos, #[], gd⟩).run Try.prog w = .ok (.value (.agg (cellsB s).toArray)) w := by
  unfold execOp
  simp only [hx, Instr.loadAt, Instr.sureAddr, Sem.run_bind, Sem.run_pure, Result.andThen_ok, run_loadVar_mid w g 0 33 (cellsB s) _ h.half1 Try.underlying33 rfl (by rw [addr_size]; simp [cellsB_length, hs])]
theorem exec_half2 {f : Operand → Value} {dd : Option Tmp} {x : Operand} {ty : TypeId} {pos : String} {gd : Option (Nat × Bool)} {w : World} {t : TypeId} {g : Nat} {s d : List Int} (hx : f x = .pointer (some ⟨g, 16, none⟩)) (h : Blk w t g (s ++ d)) (hs : s.length = 16) (hd : d.length = 16) :
    (execOp f ⟨dd, .load 33 x, ty, pos, #[], gd⟩).run Try.prog w = .ok (.value (.agg (cellsB d).toArray)) w := by
  unfold execOp
  simp only [hx, Instr.loadAt, Instr.sureAddr, Sem.run_bind, Sem.run_pure, Result.andThen_ok, run_loadVar_mid w g 16 33 (cellsB d) _ (h.half2 hs) Try.underlying33 rfl (by rw [addr_size]; simp [cellsB_length, hd])]

theorem pseudoL_all {s d : List Int} (vs : AllB s) (vd : AllB d) (len next : Int) : AllB (pseudoL s d len next) :=
  ((vs.append vd).append (four_all _ (by omega))).append (.cons (by omega) (by omega) (.cons (by omega) (by omega) (.cons (by omega) (by omega) (.cons (by omega) (by omega) .nil))))
theorem chk_fold {s d xs : List Int} (vs : AllB s) (vd : AllB d) (vx : AllB xs) (next : Int) : chk s d next xs = fold (tot (pseudoL s d xs.length next) + tot xs) :=
  jn_fold (tot_nonneg _ (pseudoL_all vs vd _ _)) (tot_nonneg _ vx)
theorem fine_law {s d xs : List Int} (vs : AllB s) (vd : AllB d) (vx : AllB xs) (next : Int) (p : Nat) (h : p + 2 ≤ xs.length) (he : p % 2 = 0) (h0 : xs.getD p 0 = 0) (h1 : xs.getD (p + 1) 0 = 0) :
    fineB s d next ((xs.set p (nt (chk s d next xs) / 256 % 256)).set (p + 1) (nt (chk s d next xs) % 256)) = true := by
  have hn := nt_range (chk s d next xs)
  have ha : AllB ((xs.set p (nt (chk s d next xs) / 256 % 256)).set (p + 1) (nt (chk s d next xs) % 256)) := (vx.set p (by omega) (by omega)).set (p + 1) (by omega) (by omega)
  have ht := tot_set xs p (nt (chk s d next xs) / 256 % 256) (nt (chk s d next xs) % 256) h he
  have hz : num2 xs p = 0 := by unfold num2; rw [h0, h1]; rfl
  rw [hz] at ht
  unfold fineB
  rw [chk_fold vs vd ha, List.length_set, List.length_set, ht]
  have hP := tot_nonneg _ (pseudoL_all vs vd xs.length next)
  have hX := tot_nonneg _ vx
  have e : nt (chk s d next xs) = 65535 - chk s d next xs := by
    rw [chk_fold vs vd vx]
    have := fold_range (tot (pseudoL s d xs.length next) + tot xs)
    unfold nt; omega
  have hf := fold_range (tot (pseudoL s d xs.length next) + tot xs)
  rw [chk_fold vs vd vx] at e hn ⊢
  generalize tot (pseudoL s d xs.length next) = a at *
  generalize tot xs = b at *
  have hj := jn_fold_num (a := a + b) (by omega) hn.1 hn.2
  rw [show a + (b - 0 + (nt (fold (a + b)) / 256 % 256 * 256 + nt (fold (a + b)) % 256)) = a + b + nt (fold (a + b)) by omega, ← hj, e]
  unfold jn
  rw [if_neg (by omega)]
  simp
  omega
end Go.Proofs.Ytcfppidobenbfaa
