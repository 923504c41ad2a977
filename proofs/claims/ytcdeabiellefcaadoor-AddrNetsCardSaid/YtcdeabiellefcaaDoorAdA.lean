/- What addr.Less, and the document's own Less, tell of two addresses. Condition: each is 16 bytes. -/
import Derived.Test.YtcdeabiellefcaaDoorCkE
namespace Go.Proofs.YtcdeabiellefcaaDoor
open Go.RowKit
set_option linter.unusedVariables false

/-- is the first byte in which they differ less? -/
def lessL : List Int → List Int → Bool
  | x :: xs, y :: ys => if x = y then lessL xs ys else decide (x < y)
  | _, _ => false
theorem drop_at (s : List Int) (k : Nat) (h : k < s.length) : s.drop k = s.getD k 0 :: s.drop (k + 1) := by
  rw [List.drop_eq_getElem_cons h]
  simp [List.getD, h]
theorem less_same {s d : List Int} {k : Nat} (hs : k < s.length) (hd : k < d.length) (h : s.getD k 0 = d.getD k 0) : lessL (s.drop k) (d.drop k) = lessL (s.drop (k + 1)) (d.drop (k + 1)) := by
  rw [drop_at s k hs, drop_at d k hd, lessL, if_pos h]
theorem less_other {s d : List Int} {k : Nat} (hs : k < s.length) (hd : k < d.length) (h : ¬ s.getD k 0 = d.getD k 0) : lessL (s.drop k) (d.drop k) = decide (s.getD k 0 < d.getD k 0) := by
  rw [drop_at s k hs, drop_at d k hd, lessL, if_neg h]
theorem less_end {s d : List Int} {k : Nat} (hs : s.length ≤ k) : lessL (s.drop k) (d.drop k) = false := by
  rw [List.drop_eq_nil_of_le hs]
  cases d.drop k <;> rfl
theorem low2 (w : World) (s d : List Int) (t1 t2 : TypeId) : Low w ((w.alloc (.cells (cellsB s).toArray t1)).alloc (.cells (cellsB d).toArray t2)) := (Low.alloc w _).trans (Low.alloc _ _)

set_option maxHeartbeats 800000 in
theorem less_any (s d : List Int) (w : World) (hs : s.length = 16) (hd : d.length = 16) :
    Calls Tryd.prog 19 #[addrV s, addrV d] w fun e w' => e = .returned (.bool (lessL s d)) ∧ Below w.heap.size w w' := by
  unfold addrV
  have HS := Lib.hid hs
  have HD := Lib.hid hd
  have HB0 := Lib.hid (box_first w s d 23 23)
  have HB1 := Lib.hid (box_second w s d 23 23)
  have hL := low2 w s d 23 23
  clear hs hd
  go_enter Tryd.func19, Tryd.ntmps19
  go_wp2_with fail
  generalize (w.alloc (.cells (cellsB s).toArray 23)).alloc (.cells (cellsB d).toArray 23) = w2 at *
  go_loopw [6] (fun i wr => ∃ k : Nat, k ≤ 16 ∧ i = .int .i64 k ∧ Hid (lessL s d = lessL (s.drop k) (d.drop k)) ∧ Below w2.heap.size w2 wr) (fun i _ => 16 - (intOf i).toNat)
  case atStart => exact ⟨0, Nat.zero_le _, rfl, rfl, Below.refl _ _⟩
  case round =>
    obtain ⟨k, hk, rfl, HE, hB⟩ := hrel
    by_cases hlt : k < 16
    · have h0 := (HB0.out.below hB HB0.out.lt).cell k
      rw [cellsB_get (by rw [HS.out]; exact hlt)] at h0
      have h1 := (HB1.out.below hB HB1.out.lt).cell k
      rw [cellsB_get (by rw [HD.out]; exact hlt)] at h1
      have HLs := Lib.hid (less_same (s := s) (d := d) (k := k) (by rw [HS.out]; exact hlt) (by rw [HD.out]; exact hlt))
      have HLo := Lib.hid (less_other (s := s) (d := d) (k := k) (by rw [HS.out]; exact hlt) (by rw [HD.out]; exact hlt))
      obtain ⟨x, hx⟩ : ∃ x, x = s.getD k 0 := ⟨_, rfl⟩
      obtain ⟨y, hy⟩ : ∃ y, y = d.getD k 0 := ⟨_, rfl⟩
      rw [← hx, ← hy] at HLs HLo
      rw [← hx] at h0
      rw [← hy] at h1
      clear hx hy
      by_cases hxy : x = y
      · have HE2 := Lib.hid (HE.out.trans (HLs.out hxy))
        clear HE HLs HLo
        subst hxy
        go_wp2
        go_quiet (fail)
        go_wp2
        go_roundw
        case rel => exact ⟨k + 1, by omega, by go_num, HE2, below_drewN hB _⟩
        case measure => simp [intOf]; omega
      · have HE2 := Lib.hid (HE.out.trans (HLo.out hxy))
        clear HE HLs HLo
        have hxy' : (x == y) = false := by simpa using hxy
        have hxy2 : (x != y) = true := by simpa using hxy
        go_wp2
        go_quiet (fail)
        go_wp2
        go_quiet (fail)
        go_wp2
        go_ret
        exact ⟨ret_bool HE2.out.symm, hL.trans (below_drewN (below_drewN hB _) _)⟩
    · obtain rfl : k = 16 := by omega
      have HE2 := Lib.hid (HE.out.trans (less_end (by rw [HS.out]; omega)))
      go_wp2
      go_ret
      exact ⟨ret_bool HE2.out.symm, hL.trans hB⟩

set_option maxHeartbeats 800000 in
theorem rless_any (s d : List Int) (w : World) (hs : s.length = 16) (hd : d.length = 16) :
    Calls Tryd.prog 20 #[addrV s, addrV d] w fun e w' => e = .returned (.bool (lessL s d)) ∧ Below w.heap.size w w' := by
  unfold addrV
  have HS := Lib.hid hs
  have HD := Lib.hid hd
  have HB0 := Lib.hid (box_first w s d 23 23)
  have HB1 := Lib.hid (box_second w s d 23 23)
  have hL := low2 w s d 23 23
  clear hs hd
  go_enter Tryd.func20, Tryd.ntmps20
  go_wp2_with fail
  generalize (w.alloc (.cells (cellsB s).toArray 23)).alloc (.cells (cellsB d).toArray 23) = w2 at *
  go_loopw [5] (fun i wr => ∃ k : Nat, k ≤ 16 ∧ i = .int .i64 k ∧ Hid (lessL s d = lessL (s.drop k) (d.drop k)) ∧ Below w2.heap.size w2 wr) (fun i _ => 16 - (intOf i).toNat)
  case atStart => exact ⟨0, Nat.zero_le _, rfl, rfl, Below.refl _ _⟩
  case round =>
    obtain ⟨k, hk, rfl, HE, hB⟩ := hrel
    by_cases hlt : k < 16
    · have h0 := (HB0.out.below hB HB0.out.lt).cell k
      rw [cellsB_get (by rw [HS.out]; exact hlt)] at h0
      have h1 := (HB1.out.below hB HB1.out.lt).cell k
      rw [cellsB_get (by rw [HD.out]; exact hlt)] at h1
      have HLs := Lib.hid (less_same (s := s) (d := d) (k := k) (by rw [HS.out]; exact hlt) (by rw [HD.out]; exact hlt))
      have HLo := Lib.hid (less_other (s := s) (d := d) (k := k) (by rw [HS.out]; exact hlt) (by rw [HD.out]; exact hlt))
      obtain ⟨x, hx⟩ : ∃ x, x = s.getD k 0 := ⟨_, rfl⟩
      obtain ⟨y, hy⟩ : ∃ y, y = d.getD k 0 := ⟨_, rfl⟩
      rw [← hx, ← hy] at HLs HLo
      rw [← hx] at h0
      rw [← hy] at h1
      clear hx hy
      by_cases hxy : x = y
      · have HE2 := Lib.hid (HE.out.trans (HLs.out hxy))
        clear HE HLs HLo
        subst hxy
        go_wp2
        go_quiet (fail)
        go_wp2
        go_roundw
        case rel => exact ⟨k + 1, by omega, by go_num, HE2, below_drewN hB _⟩
        case measure => simp [intOf]; omega
      · have HE2 := Lib.hid (HE.out.trans (HLo.out hxy))
        clear HE HLs HLo
        have hxy' : (x == y) = false := by simpa using hxy
        have hxy2 : (x != y) = true := by simpa using hxy
        go_wp2
        go_quiet (fail)
        go_wp2
        go_quiet (fail)
        go_wp2
        go_ret
        exact ⟨ret_bool HE2.out.symm, hL.trans (below_drewN (below_drewN hB _) _)⟩
    · obtain rfl : k = 16 := by omega
      have HE2 := Lib.hid (HE.out.trans (less_end (by rw [HS.out]; omega)))
      go_wp2
      go_ret
      exact ⟨ret_bool HE2.out.symm, hL.trans hB⟩
end Go.Proofs.YtcdeabiellefcaaDoor
