/- What octets.Put16, Put32, Set16 and Cut answer. Conditions: the lists are at most 2^47 bytes long; places and numbers are ints. -/
import Derived.Test.YtnfiijbnfmcpjaaOctC
namespace Go.Proofs.Ytnfiijbnfmcpjaa
open Go.RowKit
set_option linter.unusedVariables false

theorem getD2_0 {α : Type} (a b : α) (d : α) : [a, b].getD 0 d = a := rfl
theorem getD2_1 {α : Type} (a b : α) (d : α) : [a, b].getD 1 d = b := rfl

/-- two lists in a block of their own -/
theorem Row.two {w : World} {g : Nat} {t : TypeId} {a0 a1 : Option Addr} {n0 c0 n1 c1 : Nat} {xs ys : List Int}
    (hg : w.heap[g]? = some (.cells #[.slice a0 n0 c0, .slice a1 n1 c1] t (0, 0))) (h0 : Bs w w.heap.size a0 n0 xs) (h1 : Bs w w.heap.size a1 n1 ys) :
    Row w (some ⟨g, 0, none⟩) [(a0, n0, c0), (a1, n1, c1)] [xs, ys] := by
  refine ⟨rfl, fun i hi => ?_, fun _ => ⟨g, 0, rfl, (Array.getElem?_eq_some_iff.1 hg).1, fun i hi => ?_⟩⟩
  · match i, hi with
    | 0, _ => exact h0
    | 1, _ => exact h1
  · rw [cell_of_row w g _ _ _ _ hg]
    match i, hi with
    | 0, _ => rfl
    | 1, _ => rfl
theorem Row.one {w : World} {g : Nat} {t : TypeId} {a0 : Option Addr} {n0 c0 : Nat} {xs : List Int}
    (hg : w.heap[g]? = some (.cells #[.slice a0 n0 c0] t (0, 0))) (h0 : Bs w w.heap.size a0 n0 xs) :
    Row w (some ⟨g, 0, none⟩) [(a0, n0, c0)] [xs] := by
  refine ⟨rfl, fun i hi => ?_, fun _ => ⟨g, 0, rfl, (Array.getElem?_eq_some_iff.1 hg).1, fun i hi => ?_⟩⟩
  · match i, hi with
    | 0, _ => exact h0
  · rw [cell_of_row w g _ _ _ _ hg]
    match i, hi with
    | 0, _ => rfl
theorem Row.three {w : World} {g : Nat} {t : TypeId} {a0 a1 a2 : Option Addr} {n0 c0 n1 c1 n2 c2 : Nat} {xs ys zs : List Int}
    (hg : w.heap[g]? = some (.cells #[.slice a0 n0 c0, .slice a1 n1 c1, .slice a2 n2 c2] t (0, 0))) (h0 : Bs w w.heap.size a0 n0 xs) (h1 : Bs w w.heap.size a1 n1 ys) (h2 : Bs w w.heap.size a2 n2 zs) :
    Row w (some ⟨g, 0, none⟩) [(a0, n0, c0), (a1, n1, c1), (a2, n2, c2)] [xs, ys, zs] := by
  refine ⟨rfl, fun i hi => ?_, fun _ => ⟨g, 0, rfl, (Array.getElem?_eq_some_iff.1 hg).1, fun i hi => ?_⟩⟩
  · match i, hi with
    | 0, _ => exact h0
    | 1, _ => exact h1
    | 2, _ => exact h2
  · rw [cell_of_row w g _ _ _ _ hg]
    match i, hi with
    | 0, _ => rfl
    | 1, _ => rfl
    | 2, _ => rfl

theorem mod_byte (x : Int) : 0 ≤ x % 256 ∧ x % 256 < 256 := by omega

theorem join2 (A0 A1 : Option Addr) (n0 c0 n1 c1 g : Nat) (t : TypeId) (xs ys : List Int) (w : World) (hN : n0 + n1 ≤ 281474976710656)
    (hg : w.heap[g]? = some (.cells #[.slice A0 n0 c0, .slice A1 n1 c1] t (0, 0))) (h0 : Bs w w.heap.size A0 n0 xs) (h1 : Bs w w.heap.size A1 n1 ys) :
    Calls Try.prog 40 #[.slice (some ⟨g, 0, none⟩) 2 2] w fun e w' => ∃ v, e = .returned v ∧ NewB 5 w (n0 + n1) (xs ++ ys) v w' := by
  refine (join_any (some ⟨g, 0, none⟩) 2 2 _ _ (n0 + n1) w rfl (by omega) (Row.two hg h0 h1) (by simp [h0.len, h1.len]) hN).mono ?_
  rintro e w' ⟨rfl, hb, hB⟩
  rw [show [xs, ys].flatten = xs ++ ys by simp] at hb
  exact ⟨_, rfl, _, rfl, Nat.le_refl _, hb, by simp [h0.len, h1.len], h0.all.append h1.all, hB⟩
theorem join1 (A0 : Option Addr) (n0 c0 g : Nat) (t : TypeId) (xs : List Int) (w : World) (hN : n0 ≤ 281474976710656)
    (hg : w.heap[g]? = some (.cells #[.slice A0 n0 c0] t (0, 0))) (h0 : Bs w w.heap.size A0 n0 xs) :
    Calls Try.prog 40 #[.slice (some ⟨g, 0, none⟩) 1 1] w fun e w' => ∃ v, e = .returned v ∧ NewB 5 w n0 xs v w' := by
  refine (join_any (some ⟨g, 0, none⟩) 1 1 _ _ n0 w rfl (by omega) (Row.one hg h0) (by simp [h0.len]) hN).mono ?_
  rintro e w' ⟨rfl, hb, hB⟩
  rw [show [xs].flatten = xs by simp] at hb
  exact ⟨_, rfl, _, rfl, Nat.le_refl _, hb, h0.len, h0.all, hB⟩
theorem join3 (A0 A1 A2 : Option Addr) (n0 c0 n1 c1 n2 c2 g : Nat) (t : TypeId) (xs ys zs : List Int) (w : World) (hN : n0 + n1 + n2 ≤ 281474976710656)
    (hg : w.heap[g]? = some (.cells #[.slice A0 n0 c0, .slice A1 n1 c1, .slice A2 n2 c2] t (0, 0))) (h0 : Bs w w.heap.size A0 n0 xs) (h1 : Bs w w.heap.size A1 n1 ys) (h2 : Bs w w.heap.size A2 n2 zs) :
    Calls Try.prog 40 #[.slice (some ⟨g, 0, none⟩) 3 3] w fun e w' => ∃ v, e = .returned v ∧ NewB 5 w (n0 + n1 + n2) (xs ++ ys ++ zs) v w' := by
  refine (join_any (some ⟨g, 0, none⟩) 3 3 _ _ (n0 + n1 + n2) w rfl (by omega) (Row.three hg h0 h1 h2) (by simp [h0.len, h1.len, h2.len]; omega) hN).mono ?_
  rintro e w' ⟨rfl, hb, hB⟩
  rw [show [xs, ys, zs].flatten = xs ++ ys ++ zs by simp] at hb
  exact ⟨_, rfl, _, rfl, Nat.le_refl _, hb, by simp [h0.len, h1.len, h2.len]; omega, (h0.all.append h1.all).append h2.all, hB⟩

theorem NewB.wider {t : TypeId} {w0 w w' : World} {n : Nat} {ys : List Int} {v : Value} (h : NewB t w n ys v w') (hb : Below w0.heap.size w0 w) : NewB t w0 n ys v w' := by
  obtain ⟨g, hv, hg, hk, hl, ha, hB⟩ := h
  exact ⟨g, hv, Nat.le_trans hb.size hg, hk, hl, ha, hb.trans (hB.mono hb.size)⟩

/-- the bytes of a number -/
def two (x : Int) : List Int := [x / 256 % 256, x % 256]
def four (x : Int) : List Int := [x / 16777216, x / 65536 % 256, x / 256 % 256, x % 256]
theorem two_all (x : Int) : AllB (two x) := .cons (by omega) (by omega) (.cons (by omega) (by omega) .nil)
theorem four_all (x : Int) (_hx : 0 ≤ x ∧ x < 4294967296) : AllB (four x) := .cons (by omega) (by omega) (.cons (by omega) (by omega) (.cons (by omega) (by omega) (.cons (by omega) (by omega) .nil)))

set_option maxHeartbeats 400000 in
theorem put16_any (A : Option Addr) (n c : Nat) (x : Int) (xs : List Int) (w : World) (hn : n ≤ 140737488355328) (hx : i64ok x) (hb : Bs w w.heap.size A n xs) :
    Calls Try.prog 33 #[.slice A n c, .int .i64 x] w fun e w' => ∃ v, e = .returned v ∧ NewB 5 w (n + 2) (xs ++ two x) v w' := by
  unfold i64ok at hx
  go_enter Try.func33, Try.ntmps33
  go_wp2_with fail
  have hB : Below w.heap.size w ((w.alloc (.cells #[.int .u8 (x / 256 % 256), .int .u8 (x % 256)] 5)).alloc (.cells #[.slice A n c, .slice (some ⟨w.heap.size, 0, none⟩) 2 2] 28)) :=
    ((Below.refl _ _).alloc (Nat.le_refl _) _).alloc (by simp) _
  have hk : Blk ((w.alloc (.cells #[.int .u8 (x / 256 % 256), .int .u8 (x % 256)] 5)).alloc (.cells #[.slice A n c, .slice (some ⟨w.heap.size, 0, none⟩) 2 2] 28)) 5 w.heap.size (two x) := (Blk.new w 5 (two x)).alloc _
  refine (join2 A (some ⟨w.heap.size, 0, none⟩) n c 2 2 (w.heap.size + 1) 28 xs (two x) _ (by omega) ?_ ((hb.below hB).more (by simp; omega)) (hk.bs (two_all x) (by simp; omega) rfl)).mono ?_
  · have := heap_alloc_new (w.alloc (.cells #[.int .u8 (x / 256 % 256), .int .u8 (x % 256)] 5)) (.cells #[.slice A n c, .slice (some ⟨w.heap.size, 0, none⟩) 2 2] 28 (0, 0))
    simpa using this
  · rintro e w' ⟨v, rfl, hnew⟩
    have hnew := Lib.hid (hnew.wider hB)
    clear hB hk
    go_wp2
    go_ret
    exact ⟨v, rfl, hnew.out⟩

end Go.Proofs.Ytnfiijbnfmcpjaa
