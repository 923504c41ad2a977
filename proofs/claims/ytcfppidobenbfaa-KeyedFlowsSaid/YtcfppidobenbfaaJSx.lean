/- Texts joined.
  A header by value and in memory: its cells, compared, loaded, stored. Condition: addresses are 16 bytes.
  What six.fitted and six.Can tell of any header. Condition: its numbers are ints, its addresses 16 bytes.
  What the document's own Can tells of any header. Condition: its numbers are ints, its addresses 16 bytes.
  What six.Put tells of any bytes and any header. Conditions: the header's numbers are ints, its addresses 16 bytes; the bytes are at most 2^47.
  What the document's own Put tells of any header. Conditions: the header's numbers are ints, its addresses 16 bytes.
  What six.Get tells of any bytes. Condition: at most 2^47 bytes.
  What the document's own Get tells of any bytes. Condition: at most 2^47 bytes.
-/
import Derived.Test.YtcfppidobenbfaaVals
import Derived.Deep.MidRow
import Derived.Test.YtcfppidobenbfaaJOct
import Derived.Test.YtcfppidobenbfaaJReg
set_option maxRecDepth 100000
namespace Go.Proofs.Ytcfppidobenbfaa
open Go.RowKit
set_option linter.unusedVariables false

/-- a header -/
structure Hd where
  cl : Int
  lb : Int
  ln : Int
  nx : Int
  hp : Int
  s : List Int
  d : List Int
/-- its numbers are ints, its addresses are 16 bytes -/
structure Hd.ok (h : Hd) : Prop where
  cl : i64ok h.cl
  lb : i64ok h.lb
  ln : i64ok h.ln
  nx : i64ok h.nx
  hp : i64ok h.hp
  s : h.s.length = 16
  d : h.d.length = 16
  vs : AllB h.s
  vd : AllB h.d
def headC (h : Hd) : List Value := .int .i64 h.cl :: .int .i64 h.lb :: .int .i64 h.ln :: .int .i64 h.nx :: .int .i64 h.hp :: (cellsB h.s ++ cellsB h.d)
def headV (h : Hd) : Value := .agg (headC h).toArray
def zeroH : Hd := ⟨0, 0, 0, 0, 0, zero16, zero16⟩
theorem zeroH_ok : zeroH.ok := ⟨by unfold i64ok; decide, by unfold i64ok; decide, by unfold i64ok; decide, by unfold i64ok; decide, by unfold i64ok; decide, rfl, rfl, zero_all, zero_all⟩
theorem headC_length {h : Hd} (hs : h.s.length = 16) (hd : h.d.length = 16) : (headC h).length = 37 := by simp [headC, cellsB_length, hs, hd]
theorem headC_one (h : Hd) : ∀ u ∈ headC h, u.oneCell' = true := by
  intro u hu
  unfold headC at hu
  simp only [List.mem_cons, List.mem_append] at hu
  rcases hu with rfl | rfl | rfl | rfl | rfl | hu | hu
  iterate 5 rfl
  · exact cellsB_one h.s u hu
  · exact cellsB_one h.d u hu
/-- headers are compared -/
def eqH (a b : Hd) : Bool := a.cl == b.cl && a.lb == b.lb && a.ln == b.ln && a.nx == b.nx && a.hp == b.hp && a.s == b.s && a.d == b.d
theorem eqH_refl (a : Hd) : eqH a a = true := by simp [eqH]
theorem part_s (h : Hd) (hs : h.s.length = 16) (w : World) : (part 33 (headC h).toArray 5).run Try.prog w = .ok (.agg (cellsB h.s).toArray) w := by
  obtain ⟨i, hi, hz⟩ := info_sized addr_size
  simp only [part, isAgg, run_underlying Try.underlying33, sizeOf, typeInfo, Sem.run_bind, run_program, hi, hz, headC, Result.andThen_ok, Sem.run_pure, if_true]
  congr 2
  simp [cellsB_length, hs]
theorem part_d (h : Hd) (hs : h.s.length = 16) (hd : h.d.length = 16) (w : World) : (part 33 (headC h).toArray 21).run Try.prog w = .ok (.agg (cellsB h.d).toArray) w := by
  obtain ⟨i, hi, hz⟩ := info_sized addr_size
  simp only [part, isAgg, run_underlying Try.underlying33, sizeOf, typeInfo, Sem.run_bind, run_program, hi, hz, headC, Result.andThen_ok, Sem.run_pure, if_true]
  congr 2
  simp [cellsB_length, hs]
  exact List.take_of_length_le (by rw [cellsB_length]; omega)
theorem part_int (cs : Array Value) (k : Nat) (v : Value) (h : cs[k]? = some v) (w : World) : (part 3 cs k).run Try.prog w = .ok v w := by
  simp [part, isAgg, run_underlying Try.underlying3, h]
theorem part_cl (h : Hd) (w : World) : (part 3 (headC h).toArray 0).run Try.prog w = .ok (.int .i64 h.cl) w := part_int (headC h).toArray 0 _ rfl w
theorem part_lb (h : Hd) (w : World) : (part 3 (headC h).toArray 1).run Try.prog w = .ok (.int .i64 h.lb) w := part_int (headC h).toArray 1 _ rfl w
theorem part_ln (h : Hd) (w : World) : (part 3 (headC h).toArray 2).run Try.prog w = .ok (.int .i64 h.ln) w := part_int (headC h).toArray 2 _ rfl w
theorem part_nx (h : Hd) (w : World) : (part 3 (headC h).toArray 3).run Try.prog w = .ok (.int .i64 h.nx) w := part_int (headC h).toArray 3 _ rfl w
theorem part_hp (h : Hd) (w : World) : (part 3 (headC h).toArray 4).run Try.prog w = .ok (.int .i64 h.hp) w := part_int (headC h).toArray 4 _ rfl w
theorem eq_int (a b : Int) (w : World) : (Op.equalIn 9999 3 (.int .i64 a) (.int .i64 b)).run Try.prog w = .ok (a == b) w := run_equalIn_int w 9998 _ _ _ a b Try.underlying3
theorem eq_addr9 (s d : List Int) (hs : s.length = 16) (hd : d.length = 16) (w : World) :
    (Op.equalIn 9999 33 (.agg (cellsB s).toArray) (.agg (cellsB d).toArray)).run Try.prog w = .ok (s == d) w := by
  obtain ⟨i, hi, hz⟩ := info_sized size_u8
  exact run_equalIn_ints w .u8 9997 33 5 16 i Try.underlying33 Try.underlying5 hi hz s d hs hd
section
variable {ops : Array Oper} {rest : List Oper} {o : Oper} {a : Act} {w : World} {Q : Exit → Act → World → Prop}
end
end Go.Proofs.Ytcfppidobenbfaa

namespace Go.Proofs.Ytcfppidobenbfaa
open Go.RowKit
set_option linter.unusedVariables false

theorem and_mask (k : Nat) (hk : k ≤ 62) (m : Int) (hm : m = 2 ^ k - 1) (n : Int) : bits .and .i64 n m = n % 2 ^ k := by
  have hp : (2 : Int) ^ k ≤ 2 ^ 62 := by
    have := Nat.pow_le_pow_right (show 0 < 2 by omega) hk
    exact_mod_cast this
  have hp0 : (0 : Int) < 2 ^ k := by
    have := Nat.pow_pos (n := k) (show 0 < 2 by omega)
    exact_mod_cast this
  have h2 : (BitVec.ofInt 64 m).toNat = 2 ^ k - 1 := by
    rw [BitVec.toNat_ofInt, hm]
    have : ((2 : Int) ^ k - 1) % ↑(2 ^ 64 : Nat) = 2 ^ k - 1 := Int.emod_eq_of_lt (by omega) (by omega)
    rw [this]
    have : ((2 : Int) ^ k) = ((2 ^ k : Nat) : Int) := by push_cast; rfl
    rw [this]; omega
  have hd : (2 : Int) ^ k ∣ ((2 ^ 64 : Nat) : Int) := by
    refine ⟨2 ^ (64 - k), ?_⟩
    rw [← Int.pow_add, show k + (64 - k) = 64 by omega]; rfl
  have h : ((BitVec.ofInt 64 n &&& BitVec.ofInt 64 m).toNat : Int) = n % 2 ^ k := by
    rw [BitVec.toNat_and, h2, BitVec.toNat_ofInt, Nat.and_two_pow_sub_one_eq_mod, Int.natCast_emod, Int.toNat_of_nonneg (Int.emod_nonneg _ (by decide))]
    have e : ((2 ^ k : Nat) : Int) = 2 ^ k := by push_cast; rfl
    rw [e]
    exact Int.emod_emod_of_dvd n hd
  show IntKind.i64.wrap ((BitVec.ofInt 64 n &&& BitVec.ofInt 64 m).toNat : Int) = _
  rw [h, IntKind.wrap_i64]
  have := Int.emod_nonneg n (show (2 : Int) ^ k ≠ 0 by omega)
  have := Int.emod_lt_of_pos n hp0
  omega
theorem and255 (n : Int) : bits .and .i64 n 255 = n % 256 := and_mask 8 (by decide) 255 (by decide) n
theorem and1048575 (n : Int) : bits .and .i64 n 1048575 = n % 1048576 := and_mask 20 (by decide) 1048575 (by decide) n
theorem and_65535 (n : Int) : bits .and .i64 n 65535 = n % 65536 := and_mask 16 (by decide) 65535 (by decide) n

def fitH (h : Hd) : Hd := ⟨h.cl % 256, h.lb % 1048576, h.ln % 65536, h.nx % 256, h.hp % 256, h.s, h.d⟩
def canB (h : Hd) : Bool := decide (0 ≤ h.cl ∧ h.cl ≤ 255 ∧ 0 ≤ h.lb ∧ h.lb ≤ 1048575 ∧ 0 ≤ h.ln ∧ h.ln ≤ 65535 ∧ 0 ≤ h.nx ∧ h.nx ≤ 255 ∧ 0 ≤ h.hp ∧ h.hp ≤ 255)
def canE (h : Hd) : Int := if canB h then 0 else 2
theorem eq_fit (h : Hd) : eqH h (fitH h) = canB h := by
  rw [Bool.eq_iff_iff]
  unfold eqH fitH canB
  simp only [Bool.and_eq_true, beq_iff_eq, decide_eq_true_eq, and_true]
  omega

end Go.Proofs.Ytcfppidobenbfaa

namespace Go.Proofs.Ytcfppidobenbfaa
open Go.RowKit
set_option linter.unusedVariables false

def numsH (h : Hd) : List Int := [h.cl, h.lb, h.ln, h.nx, h.hp]
def mostH : List Int := [255, 1048575, 65535, 255, 255]
def cellsI (xs : List Int) : List Value := xs.map (Value.int .i64)
theorem cellsI_get {xs : List Int} {i : Nat} (h : i < xs.length) : (cellsI xs)[i]? = some (.int .i64 (xs.getD i 0)) := by
  simp [cellsI, List.getD, h]
theorem cellsI_one (xs : List Int) : (cellsI xs).toArray.all (·.oneCell') = true := all_oneCell_toArray (ints_oneCell .i64 xs)
theorem can_yes (h : Hd) (hj : ∀ j, j < 5 → 0 ≤ (numsH h).getD j 0 ∧ (numsH h).getD j 0 ≤ mostH.getD j 0) : canE h = 0 := by
  have h0 : 0 ≤ h.cl ∧ h.cl ≤ 255 := hj 0 (by omega)
  have h1 : 0 ≤ h.lb ∧ h.lb ≤ 1048575 := hj 1 (by omega)
  have h2 : 0 ≤ h.ln ∧ h.ln ≤ 65535 := hj 2 (by omega)
  have h3 : 0 ≤ h.nx ∧ h.nx ≤ 255 := hj 3 (by omega)
  have h4 : 0 ≤ h.hp ∧ h.hp ≤ 255 := hj 4 (by omega)
  have e : canB h = true := by unfold canB; rw [decide_eq_true_eq]; omega
  unfold canE; rw [e]; rfl
theorem can_no (h : Hd) (k : Nat) (hk : k < 5) (hj : (numsH h).getD k 0 < 0 ∨ mostH.getD k 0 < (numsH h).getD k 0) : canE h = 2 := by
  have e : canB h = false := by
    rw [Bool.eq_false_iff]
    intro hc
    unfold canB at hc
    rw [decide_eq_true_eq] at hc
    match k, hk, hj with
    | 0, _, hj => change h.cl < 0 ∨ 255 < h.cl at hj; omega
    | 1, _, hj => change h.lb < 0 ∨ 1048575 < h.lb at hj; omega
    | 2, _, hj => change h.ln < 0 ∨ 65535 < h.ln at hj; omega
    | 3, _, hj => change h.nx < 0 ∨ 255 < h.nx at hj; omega
    | 4, _, hj => change h.hp < 0 ∨ 255 < h.hp at hj; omega
  unfold canE; rw [e]; rfl

end Go.Proofs.Ytcfppidobenbfaa

namespace Go.Proofs.Ytcfppidobenbfaa
open Go.RowKit
set_option linter.unusedVariables false

theorem Row.six {w : World} {g : Nat} {t : TypeId} {a0 a1 a2 a3 a4 a5 : Option Addr} {n0 c0 n1 c1 n2 c2 n3 c3 n4 c4 n5 c5 : Nat} {x0 x1 x2 x3 x4 x5 : List Int}
    (hg : w.heap[g]? = some (.cells #[.slice a0 n0 c0, .slice a1 n1 c1, .slice a2 n2 c2, .slice a3 n3 c3, .slice a4 n4 c4, .slice a5 n5 c5] t (0, 0))) (h0 : Bs w w.heap.size a0 n0 x0) (h1 : Bs w w.heap.size a1 n1 x1) (h2 : Bs w w.heap.size a2 n2 x2) (h3 : Bs w w.heap.size a3 n3 x3) (h4 : Bs w w.heap.size a4 n4 x4) (h5 : Bs w w.heap.size a5 n5 x5) :
    Row w (some ⟨g, 0, none⟩) [(a0, n0, c0), (a1, n1, c1), (a2, n2, c2), (a3, n3, c3), (a4, n4, c4), (a5, n5, c5)] [x0, x1, x2, x3, x4, x5] := by
  refine ⟨rfl, fun i hi => ?_, fun _ => ⟨g, 0, rfl, (Array.getElem?_eq_some_iff.1 hg).1, fun i hi => ?_⟩⟩
  · match i, hi with
    | 0, _ => exact h0
    | 1, _ => exact h1
    | 2, _ => exact h2
    | 3, _ => exact h3
    | 4, _ => exact h4
    | 5, _ => exact h5
  · rw [cell_of_row w g _ _ _ _ hg]
    match i, hi with
    | 0, _ => rfl
    | 1, _ => rfl
    | 2, _ => rfl
    | 3, _ => rfl
    | 4, _ => rfl
    | 5, _ => rfl

/-- the bytes of a header -/
def firstN (h : Hd) : Int := 1610612736 + h.cl * 1048576 + h.lb
def headL (h : Hd) : List Int := four (firstN h) ++ (two h.ln ++ ([h.nx, h.hp] ++ (h.s ++ h.d)))
def putL (h : Hd) : List Int := if canB h then headL h else []
theorem headL_length {h : Hd} (hk : h.ok) : (headL h).length = 40 := by simp [headL, four, two, hk.s, hk.d]
theorem can_range {h : Hd} (hc : canB h = true) : (0 ≤ h.cl ∧ h.cl ≤ 255) ∧ (0 ≤ h.lb ∧ h.lb ≤ 1048575) ∧ (0 ≤ h.ln ∧ h.ln ≤ 65535) ∧ (0 ≤ h.nx ∧ h.nx ≤ 255) ∧ (0 ≤ h.hp ∧ h.hp ≤ 255) := by
  unfold canB at hc
  rw [decide_eq_true_eq] at hc
  omega
theorem headL_all {h : Hd} (hk : h.ok) (hc : canB h = true) : AllB (headL h) := by
  obtain ⟨h0, h1, h2, h3, h4⟩ := can_range hc
  exact (four_all _ (by unfold firstN; omega)).append ((two_all _).append ((AllB.cons (by omega) (by omega) (.cons (by omega) (by omega) .nil)).append (hk.vs.append hk.vd)))
theorem first_or (x y : Int) (hx : 0 ≤ x ∧ x ≤ 255) (hy : 0 ≤ y ∧ y ≤ 1048575) : bits .or .u32 (bits .or .u32 1610612736 (x * 1048576)) y = 1610612736 + x * 1048576 + y := by
  rw [or_u32 28 1610612736 (x * 1048576) (by omega) (by omega) (by omega) (by omega) (by omega) (by omega), or_u32 20 (1610612736 + x * 1048576) y (by omega) (by omega) (by omega) (by omega) (by omega) (by omega)]

end Go.Proofs.Ytcfppidobenbfaa

namespace Go.Proofs.Ytcfppidobenbfaa
open Go.RowKit
set_option linter.unusedVariables false

/-- the call hands back ys, in a row of its own that may have room; what was there is as it was -/
def OwnOut (t : TypeId) (w : World) (n : Nat) (ys : List Int) (v : Value) (w' : World) : Prop :=
  ∃ A c, v = .slice A n c ∧ OwnB t w' w.heap.size A n c ys ∧ Below w.heap.size w w'
theorem OwnB.lower {t : TypeId} {w : World} {base base' n c : Nat} {A : Option Addr} {ys : List Int} (h : OwnB t w base A n c ys) (hb : base' ≤ base) : OwnB t w base' A n c ys :=
  ⟨⟨h.1.1, h.1.2.imp id fun ⟨g, cap, cur, e, hbg, r⟩ => ⟨g, cap, cur, e, Nat.le_trans hb hbg, r⟩⟩, h.2⟩
theorem headL_split (h : Hd) (hc : canB h = true) : headL h = [96 + h.cl / 16, h.cl % 16 * 16 + h.lb / 65536] ++ two (h.lb % 65536) ++ two h.ln ++ [h.nx, h.hp] ++ h.s ++ h.d := by
  obtain ⟨h0, h1, -, -, -⟩ := can_range hc
  unfold headL
  have e : four (firstN h) = [96 + h.cl / 16, h.cl % 16 * 16 + h.lb / 65536] ++ two (h.lb % 65536) := by
    unfold four two firstN
    simp only [List.cons_append, List.nil_append]
    congr 1
    · omega
    congr 1
    · omega
    congr 1
    · omega
    congr 1
    omega
  rw [e]
  simp only [List.append_assoc]

end Go.Proofs.Ytcfppidobenbfaa

namespace Go.Proofs.Ytcfppidobenbfaa
open Go.RowKit
set_option linter.unusedVariables false

/-- the header that bytes begin with -/
def getL (xs : List Int) : Hd :=
  ⟨xs.getD 0 0 % 16 * 16 + xs.getD 1 0 / 16, xs.getD 1 0 % 16 * 65536 + xs.getD 2 0 * 256 + xs.getD 3 0, xs.getD 4 0 * 256 + xs.getD 5 0, xs.getD 6 0, xs.getD 7 0, (xs.drop 8).take 16, (xs.drop 24).take 16⟩
/-- why there is none -/
def getE (xs : List Int) : Int := if xs.length < 40 then 3 else if xs.getD 0 0 / 16 = 6 then 0 else 5
def getH (xs : List Int) : Hd := if getE xs = 0 then getL xs else zeroH
theorem getL_ok {xs : List Int} (ha : AllB xs) (hl : 40 ≤ xs.length) : (getL xs).ok := by
  have r0 := ha.getD 0
  have r1 := ha.getD 1
  have r2 := ha.getD 2
  have r3 := ha.getD 3
  have r4 := ha.getD 4
  have r5 := ha.getD 5
  have r6 := ha.getD 6
  have r7 := ha.getD 7
  refine ⟨?_, ?_, ?_, ?_, ?_, by simp [getL]; omega, by simp [getL]; omega, (ha.drop 8).take 16, (ha.drop 24).take 16⟩
  all_goals unfold i64ok getL
  all_goals dsimp only
  all_goals omega
theorem getL_can {xs : List Int} (ha : AllB xs) : canB (getL xs) = true := by
  have r0 := ha.getD 0
  have r1 := ha.getD 1
  have r2 := ha.getD 2
  have r3 := ha.getD 3
  have r4 := ha.getD 4
  have r5 := ha.getD 5
  have r6 := ha.getD 6
  have r7 := ha.getD 7
  unfold canB getL
  rw [decide_eq_true_eq]
  dsimp only
  omega
theorem getE_cases (xs : List Int) : (xs.length < 40 ∧ getE xs = 3 ∧ getH xs = zeroH) ∨ (40 ≤ xs.length ∧ xs.getD 0 0 / 16 = 6 ∧ getE xs = 0 ∧ getH xs = getL xs) ∨ (40 ≤ xs.length ∧ ¬ xs.getD 0 0 / 16 = 6 ∧ getE xs = 5 ∧ getH xs = zeroH) := by
  by_cases h1 : xs.length < 40
  · have e : getE xs = 3 := by unfold getE; rw [if_pos h1]
    exact .inl ⟨h1, e, by unfold getH; rw [e]; rfl⟩
  · by_cases h2 : xs.getD 0 0 / 16 = 6
    · have e : getE xs = 0 := by unfold getE; rw [if_neg h1, if_pos h2]
      exact .inr (.inl ⟨by omega, h2, e, by unfold getH; rw [e]; rfl⟩)
    · have e : getE xs = 5 := by unfold getE; rw [if_neg h1, if_neg h2]
      exact .inr (.inr ⟨by omega, h2, e, by unfold getH; rw [e]; rfl⟩)
theorem getH_ok {xs : List Int} (ha : AllB xs) : (getH xs).ok := by
  rcases getE_cases xs with ⟨h1, _, e⟩ | ⟨h1, _, _, e⟩ | ⟨h1, _, _, e⟩
  · rw [e]; exact zeroH_ok
  · rw [e]; exact getL_ok ha h1
  · rw [e]; exact zeroH_ok
/-- a header and a number handed back -/
def GivesH (w : World) (h : Hd) (e : Int) (r : Ending) (w' : World) : Prop := r = .returned (.tuple #[headV h, .int .i64 e]) ∧ Below w.heap.size w w'

theorem first_at (xs : List Int) (ha : AllB xs) : num4 xs 0 / 268435456 = xs.getD 0 0 / 16 ∧ num4 xs 0 / 1048576 % 256 = xs.getD 0 0 % 16 * 16 + xs.getD 1 0 / 16 ∧ num4 xs 0 % 1048576 = xs.getD 1 0 % 16 * 65536 + xs.getD 2 0 * 256 + xs.getD 3 0 ∧ 0 ≤ num4 xs 0 ∧ num4 xs 0 < 4294967296 := by
  have r0 := ha.getD 0
  have r1 := ha.getD 1
  have r2 := ha.getD 2
  have r3 := ha.getD 3
  unfold num4
  simp only [Nat.zero_add]
  omega
theorem and_u32 (k : Nat) (hk : k ≤ 31) (m : Int) (hm : m = 2 ^ k - 1) (n : Int) (h0 : 0 ≤ n) (h1 : n < 4294967296) : bits .and .u32 n m = n % 2 ^ k := by
  have hp : (2 : Int) ^ k ≤ 2 ^ 31 := by
    have := Nat.pow_le_pow_right (show 0 < 2 by omega) hk
    exact_mod_cast this
  have hp0 : (0 : Int) < 2 ^ k := by
    have := Nat.pow_pos (n := k) (show 0 < 2 by omega)
    exact_mod_cast this
  have e : ((2 ^ k : Nat) : Int) = 2 ^ k := by push_cast; rfl
  have h2 : (BitVec.ofInt 32 m).toNat = 2 ^ k - 1 := by
    rw [BitVec.toNat_ofInt, hm]
    have : ((2 : Int) ^ k - 1) % ↑(2 ^ 32 : Nat) = 2 ^ k - 1 := Int.emod_eq_of_lt (by omega) (by omega)
    rw [this, ← e]; omega
  have h3 : (BitVec.ofInt 32 n).toNat = n.toNat := by
    rw [BitVec.toNat_ofInt]
    have : n % ↑(2 ^ 32 : Nat) = n := Int.emod_eq_of_lt h0 (by simpa using h1)
    rw [this]
  have h : ((BitVec.ofInt 32 n &&& BitVec.ofInt 32 m).toNat : Int) = n % 2 ^ k := by
    rw [BitVec.toNat_and, h2, h3, Nat.and_two_pow_sub_one_eq_mod, Int.natCast_emod, Int.toNat_of_nonneg h0, e]
  show IntKind.u32.wrap ((BitVec.ofInt 32 n &&& BitVec.ofInt 32 m).toNat : Int) = _
  rw [h]
  have := Int.emod_nonneg n (show (2 : Int) ^ k ≠ 0 by omega)
  have := Int.emod_lt_of_pos n hp0
  exact wraps_u32 _ (by omega) (by omega)
theorem and255u (n : Int) (h0 : 0 ≤ n) (h1 : n < 4294967296) : bits .and .u32 n 255 = n % 256 := and_u32 8 (by decide) 255 (by decide) n h0 h1
theorem and1048575u (n : Int) (h0 : 0 ≤ n) (h1 : n < 4294967296) : bits .and .u32 n 1048575 = n % 1048576 := and_u32 20 (by decide) 1048575 (by decide) n h0 h1

/-- 16 bytes of a slice -/
theorem Bs.range16 {w : World} {n b o : Nat} {xs : List Int} (h : ∀ i, i < n → w.cell? ⟨b, o + i, none⟩ = some (.int .u8 (xs.getD i 0))) (hl : xs.length = n) (k : Nat) (hk : k + 16 ≤ n) : w.rangeAt b (o + k) (cellsB ((xs.drop k).take 16)) := by
  intro j v hv
  have hj : j < 16 := by
    have := (List.getElem?_eq_some_iff.1 hv).1
    rw [cellsB_length] at this
    simp at this
    omega
  rw [Nat.add_assoc, h (k + j) (by omega)]
  rw [cellsB_get (by simp; omega)] at hv
  rw [← hv]
  congr 2
  simp [List.getD, hj]
theorem exec_load_mid {f : Operand → Value} {dd : Option Tmp} {x : Operand} {ty : TypeId} {pos : String} {gd : Option (Nat × Bool)} {w : World} {b o : Nat} {s : List Int} (hx : f x = .pointer (some ⟨b, o, none⟩)) (h : w.rangeAt b o (cellsB s)) (hs : s.length = 16) :
    (execOp f ⟨dd, .load 33 x, ty, pos, #[], gd⟩).run Try.prog w = .ok (.value (.agg (cellsB s).toArray)) w := by
  unfold execOp
  simp only [hx, Instr.loadAt, Instr.sureAddr, Sem.run_bind, Sem.run_pure, Result.andThen_ok, run_loadVar_mid w b o 33 (cellsB s) _ h Try.underlying33 rfl (by rw [addr_size]; simp [cellsB_length, hs])]

theorem list16 (s : List Int) (h : s.length = 16) : ∃ s0 s1 s2 s3 s4 s5 s6 s7 s8 s9 s10 s11 s12 s13 s14 s15, s = [s0, s1, s2, s3, s4, s5, s6, s7, s8, s9, s10, s11, s12, s13, s14, s15] := by
  match s, h with
  | [s0, s1, s2, s3, s4, s5, s6, s7, s8, s9, s10, s11, s12, s13, s14, s15], _ => exact ⟨s0, s1, s2, s3, s4, s5, s6, s7, s8, s9, s10, s11, s12, s13, s14, s15, rfl⟩
end Go.Proofs.Ytcfppidobenbfaa

namespace Go.Proofs.Ytcfppidobenbfaa
open Go.RowKit
set_option linter.unusedVariables false

theorem headC_set_s (h : Hd) (k : Nat) (x : Int) (hs : h.s.length = 16) (hk : k < 16) : (headC h).set (5 + k) (.int .u8 x) = headC { h with s := h.s.set k x } := by
  unfold headC
  rw [show 5 + k = k + 1 + 1 + 1 + 1 + 1 by omega]
  simp only [List.set_cons_succ]
  rw [List.set_append_left _ _ (by rw [cellsB_length, hs]; exact hk)]
  simp [cellsB, List.map_set]
theorem headC_set_d (h : Hd) (k : Nat) (x : Int) (hs : h.s.length = 16) (hk : k < 16) : (headC h).set (21 + k) (.int .u8 x) = headC { h with d := h.d.set k x } := by
  unfold headC
  rw [show 21 + k = (16 + k) + 1 + 1 + 1 + 1 + 1 by omega]
  simp only [List.set_cons_succ]
  rw [List.set_append_right _ _ (by rw [cellsB_length, hs]; omega), cellsB_length, hs, Nat.add_sub_cancel_left]
  simp [cellsB, List.map_set]

end Go.Proofs.Ytcfppidobenbfaa
