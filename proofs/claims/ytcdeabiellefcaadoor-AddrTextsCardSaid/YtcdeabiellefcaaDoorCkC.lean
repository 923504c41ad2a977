/- What cksum.total tells of lists of bytes: their sums, joined. Conditions: the lists are at most 2^47 bytes long. -/
import Derived.Test.YtcdeabiellefcaaDoorCkB
namespace Go.Proofs.YtcdeabiellefcaaDoor
open Go.RowKit
set_option linter.unusedVariables false

theorem Row.below {w w' : World} {A : Option Addr} {vs : List (Option Addr × Nat × Nat)} {yss : List (List Int)} (h : Row w A vs yss) (hb : Below w.heap.size w w') : Row w' A vs yss :=
  ⟨h.len, fun i hi => (h.each i hi).below' hb hb.size, fun hp => by
    obtain ⟨b, o, e, hlt, hc⟩ := h.mem hp
    exact ⟨b, o, e, Nat.lt_of_lt_of_le hlt hb.size, fun i hi => (hb.cell (p := ⟨b, o + i, none⟩) hlt).trans (hc i hi)⟩⟩
theorem Row.four {w : World} {g : Nat} {t : TypeId} {a0 a1 a2 a3 : Option Addr} {n0 c0 n1 c1 n2 c2 n3 c3 : Nat} {xs ys zs us : List Int}
    (hg : w.heap[g]? = some (.cells #[.slice a0 n0 c0, .slice a1 n1 c1, .slice a2 n2 c2, .slice a3 n3 c3] t (0, 0))) (h0 : Bs w w.heap.size a0 n0 xs) (h1 : Bs w w.heap.size a1 n1 ys) (h2 : Bs w w.heap.size a2 n2 zs) (h3 : Bs w w.heap.size a3 n3 us) :
    Row w (some ⟨g, 0, none⟩) [(a0, n0, c0), (a1, n1, c1), (a2, n2, c2), (a3, n3, c3)] [xs, ys, zs, us] := by
  refine ⟨rfl, fun i hi => ?_, fun _ => ⟨g, 0, rfl, (Array.getElem?_eq_some_iff.1 hg).1, fun i hi => ?_⟩⟩
  · match i, hi with
    | 0, _ => exact h0
    | 1, _ => exact h1
    | 2, _ => exact h2
    | 3, _ => exact h3
  · rw [cell_of_row w g _ _ _ _ hg]
    match i, hi with
    | 0, _ => rfl
    | 1, _ => rfl
    | 2, _ => rfl
    | 3, _ => rfl

/-- sums of lists, joined from 0 on -/
def jnAll (yss : List (List Int)) : Int := yss.foldl (fun s ys => jn s (sumL ys)) 0
theorem jnAll_succ (yss : List (List Int)) (k : Nat) (h : k < yss.length) : jnAll (yss.take (k + 1)) = jn (jnAll (yss.take k)) (sumL (yss.getD k [])) := by
  unfold jnAll
  rw [List.take_succ_eq_append_getElem h, List.foldl_append]
  simp [List.getD, h]
theorem jn_zero_sum (xs : List Int) : jn 0 (sumL xs) = sumL xs := by
  have := sumL_range xs
  unfold jn
  rw [if_neg (by omega)]
  omega
theorem jnAll_four {xs ys zs us : List Int} (hx : AllB xs) (hy : AllB ys) (hz : AllB zs) (hu : AllB us) (h0 : xs.length % 2 = 0) (h1 : ys.length % 2 = 0) (h2 : zs.length % 2 = 0) :
    jnAll [xs, ys, zs, us] = sumL (xs ++ ys ++ zs ++ us) := by
  show jn (jn (jn (jn 0 (sumL xs)) (sumL ys)) (sumL zs)) (sumL us) = _
  rw [jn_zero_sum, sum_append hx hy h0, sum_append (hx.append hy) hz (by rw [List.length_append]; omega), sum_append ((hx.append hy).append hz) hu (by rw [List.length_append, List.length_append]; omega)]

end Go.Proofs.YtcdeabiellefcaaDoor
