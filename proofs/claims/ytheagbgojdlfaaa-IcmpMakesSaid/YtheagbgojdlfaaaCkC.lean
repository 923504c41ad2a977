/- What cksum.total tells of lists of bytes: their sums, joined. Conditions: the lists are at most 2^47 bytes long. -/
import Derived.Test.YtheagbgojdlfaaaCkB
namespace Go.Proofs.Ytheagbgojdlfaaa
open Go.RowKit
set_option linter.unusedVariables false

theorem Row.four {w : World} {g : Nat} {t : TypeId} {a0 a1 a2 a3 : Option Addr} {n0 c0 n1 c1 n2 c2 n3 c3 : Nat} {xs ys zs us : List Int}
    (hg : w.heap[g]? = some (.cells #[.slice a0 n0 c0, .slice a1 n1 c1, .slice a2 n2 c2, .slice a3 n3 c3] t (0, 0))) (h0 : Bs w w.heap.size a0 n0 xs) (h1 : Bs w w.heap.size a1 n1 ys) (h2 : Bs w w.heap.size a2 n2 zs) (h3 : Bs w w.heap.size a3 n3 us) :
    Row w (some ⟨g, 0, none⟩) [(a0, n0, c0), (a1, n1, c1), (a2, n2, c2), (a3, n3, c3)] [xs, ys, zs, us] := by
  refine ⟨rfl, fun i hi => ?_, fun _ => ⟨g, 0, rfl, (Array.getElem?_eq_some_iff.1 hg).1, fun i hi => ?_⟩⟩
  · match i, hi with
    | 0, _ => exact h0
    | 1, _ => exact h1
    | 2, _ => exact h2
    | 3, _ => exact h3
  · rw [cell_of_row w g _ _ _ _ hg]
    match i, hi with
    | 0, _ => rfl
    | 1, _ => rfl
    | 2, _ => rfl
    | 3, _ => rfl

/-- sums of lists, joined from 0 on -/
def jnAll (yss : List (List Int)) : Int := yss.foldl (fun s ys => jn s (sumL ys)) 0
theorem jnAll_succ (yss : List (List Int)) (k : Nat) (h : k < yss.length) : jnAll (yss.take (k + 1)) = jn (jnAll (yss.take k)) (sumL (yss.getD k [])) := by
  unfold jnAll
  rw [List.take_succ_eq_append_getElem h, List.foldl_append]
  simp [List.getD, h]
theorem jn_zero_sum (xs : List Int) : jn 0 (sumL xs) = sumL xs := by
  have := sumL_range xs
  unfold jn
  rw [if_neg (by omega)]
  omega
theorem jnAll_four {xs ys zs us : List Int} (hx : AllB xs) (hy : AllB ys) (hz : AllB zs) (hu : AllB us) (h0 : xs.length % 2 = 0) (h1 : ys.length % 2 = 0) (h2 : zs.length % 2 = 0) :
    jnAll [xs, ys, zs, us] = sumL (xs ++ ys ++ zs ++ us) := by
  show jn (jn (jn (jn 0 (sumL xs)) (sumL ys)) (sumL zs)) (sumL us) = _
  rw [jn_zero_sum, sum_append hx hy h0, sum_append (hx.append hy) hz (by rw [List.length_append]; omega), sum_append ((hx.append hy).append hz) hu (by rw [List.length_append, List.length_append]; omega)]

set_option maxHeartbeats 800000 in
theorem total_any (A : Option Addr) (m c : Nat) (vs : List (Option Addr × Nat × Nat)) (yss : List (List Int)) (w : World) (hm : vs.length = m) (hm2 : m ≤ 140737488355328) (hr : Row w A vs yss)
    (hv : ∀ i, i < m → (vs.getD i (none, 0, 0)).2.1 ≤ 140737488355328) :
    Calls Try.prog 50 #[.slice A m c] w fun e w' => e = .returned (.int .i64 (jnAll yss)) ∧ Below w.heap.size w w' := by
  have HM := Lib.hid hm
  have HV := Lib.hid hv
  clear hm hv
  go_enter Try.func50, Try.ntmps50
  go_wp2
  go_loopw [3, 8] (fun s i wr => ∃ k : Nat, k ≤ m ∧ i = .int .i64 k ∧ s = .int .i64 (jnAll (yss.take k)) ∧ Below w.heap.size w wr) (fun _ i _ => m - (intOf i).toNat)
  case atStart => exact ⟨0, Nat.zero_le _, rfl, rfl, Below.refl _ _⟩
  case round =>
    obtain ⟨k, hk, rfl, rfl, hB⟩ := hrel
    by_cases hlt : k < m
    · have hr2 := hr.below hB
      have HS := Lib.hid (jnAll_succ yss k (by rw [hr.len, HM.out]; exact hlt))
      obtain ⟨b, o, rfl, _, hc⟩ := hr2.mem (by rw [HM.out]; omega)
      obtain ⟨a, n, cc, hve⟩ : ∃ a n cc, vs.getD k (none, 0, 0) = (a, n, cc) := ⟨_, _, _, rfl⟩
      have h0 := hc k (by rw [HM.out]; omega)
      have hb := hr2.each k (by rw [HM.out]; omega)
      have hn := HV.out k hlt
      rw [hve] at h0 hb hn
      dsimp only at h0 hb hn
      clear hc hr2 hve
      generalize yss.getD k [] = ys at *
      go_wp2_with fail
      refine (cksum_any a n cc ys wr hn hb).mono ?_
      rintro e w1 ⟨rfl, hB1⟩
      have hB2 := hB.trans (hB1.mono hB.size)
      clear hB1 hb h0 hB
      go_wp2_with fail
      refine (ckjoin_any _ _ _).mono ?_
      rintro e w2 ⟨rfl, rfl⟩
      rw [← HS.out]
      go_wp2
      go_roundw
      case rel => exact ⟨k + 1, by omega, by go_num, rfl, hB2⟩
      case measure => simp [intOf]; omega
    · obtain rfl : k = m := by omega
      have HT := Lib.hid (show yss.take k = yss from List.take_of_length_le (by rw [hr.len, HM.out]; omega))
      go_wp2
      go_ret
      exact ⟨ret_i (by rw [HT.out]), hB⟩
end Go.Proofs.Ytheagbgojdlfaaa
