/- What the headers of bytes are, and what walk.extent tells. Condition: at most 2^47 bytes. -/
import Derived.Test.YtnfdfjjdgojeeaaWkA
import Derived.OwnWalk
namespace Go.Proofs.Ytnfdfjjdgojeeaa
open Go.RowKit
set_option linter.unusedVariables false

/-- how long the extension header at a place is -/
def hsz (xs : List Int) (a : Nat) : Nat := 8 * ((xs.getD (a + 1) 0).toNat + 1)
/-- the headers of bytes from a place on, f of which may still be extension headers; an error -/
def walkR (xs : List Int) : Nat → Int → Nat → List Pt × Int
  | 0, next, a => if next = 44 then ([], 7) else if next = 0 then ([], 5) else if next = 43 ∨ next = 60 then ([], 8) else ([⟨next, a, (xs.length : Int) - a⟩], 0)
  | f + 1, next, a =>
    if next = 44 then ([], 7) else if next = 0 ∧ f ≠ 7 then ([], 5)
    else if next = 0 ∨ next = 43 ∨ next = 60 then
      if a + 2 ≤ xs.length ∧ a + hsz xs a ≤ xs.length then
        if (walkR xs f (xs.getD a 0) (a + hsz xs a)).2 = 0 then (⟨next, a, (hsz xs a : Nat)⟩ :: (walkR xs f (xs.getD a 0) (a + hsz xs a)).1, 0) else ([], (walkR xs f (xs.getD a 0) (a + hsz xs a)).2)
      else ([], 3)
    else ([⟨next, a, (xs.length : Int) - a⟩], 0)
/-- behind others -/
def joinPs (ps : List Pt) (r : List Pt × Int) : List Pt × Int := if r.2 = 0 then (ps ++ r.1, 0) else ([], r.2)
theorem joinPs_nil (r : List Pt × Int) (h : r.2 = 0 ∨ r.1 = []) : joinPs [] r = r := by
  obtain ⟨l, e⟩ := r
  unfold joinPs
  by_cases he : e = 0
  · simp [he]
  · rcases h with h | h
    · exact absurd h he
    · simp only at h; simp [he, h]
theorem joinPs_join (ps qs : List Pt) (r : List Pt × Int) : joinPs ps (joinPs qs r) = joinPs (ps ++ qs) r := by
  obtain ⟨l, e⟩ := r
  unfold joinPs
  by_cases he : e = 0 <;> simp [he]

section
variable (xs : List Int)
theorem walkR_frag (f : Nat) (a : Nat) : walkR xs f 44 a = ([], 7) := by cases f <;> simp [walkR]
theorem walkR_form (f : Nat) (a : Nat) (hf : f ≠ 8) : walkR xs f 0 a = ([], 5) := by
  cases f with
  | zero => simp [walkR]
  | succ f => simp [walkR]; omega
theorem walkR_last (f : Nat) (next : Int) (a : Nat) (h1 : next ≠ 44) (h2 : next ≠ 0) (h3 : next ≠ 43) (h4 : next ≠ 60) : walkR xs f next a = ([⟨next, a, (xs.length : Int) - a⟩], 0) := by cases f <;> simp [walkR, h1, h2, h3, h4]
theorem walkR_many (next : Int) (a : Nat) (h : next = 43 ∨ next = 60) : walkR xs 0 next a = ([], 8) := by
  rcases h with rfl | rfl <;> simp [walkR]
theorem walkR_short (f : Nat) (next : Int) (a : Nat) (h : (next = 0 ∧ f = 7) ∨ next = 43 ∨ next = 60) (hs : ¬ (a + 2 ≤ xs.length ∧ a + hsz xs a ≤ xs.length)) : walkR xs (f + 1) next a = ([], 3) := by
  unfold walkR
  rw [if_neg (by omega), if_neg (by omega), if_pos (by omega), if_neg hs]
theorem walkR_more (f : Nat) (next : Int) (a : Nat) (h : (next = 0 ∧ f = 7) ∨ next = 43 ∨ next = 60) (hs : a + 2 ≤ xs.length ∧ a + hsz xs a ≤ xs.length) :
    walkR xs (f + 1) next a = joinPs [⟨next, a, (hsz xs a : Nat)⟩] (walkR xs f (xs.getD a 0) (a + hsz xs a)) := by
  conv => lhs; unfold walkR
  rw [if_neg (by omega), if_neg (by omega), if_pos (by omega), if_pos hs]
  rfl
theorem walkR_or (f : Nat) (next : Int) (a : Nat) : (walkR xs f next a).2 = 0 ∨ (walkR xs f next a).1 = [] := by
  cases f with
  | zero => unfold walkR; (repeat' split) <;> first | exact .inl rfl | exact .inr rfl
  | succ f => unfold walkR; (repeat' split) <;> first | exact .inl rfl | exact .inr rfl
theorem walkR_len : ∀ (f : Nat) (next : Int) (a : Nat), (walkR xs f next a).1.length ≤ f + 1
  | 0, next, a => by unfold walkR; (repeat' split) <;> simp
  | f + 1, next, a => by
    have ih := walkR_len f (xs.getD a 0) (a + hsz xs a)
    unfold walkR; (repeat' split) <;> simp only [List.length_cons, List.length_nil] <;> omega
theorem walkR_err : ∀ (f : Nat) (next : Int) (a : Nat), 0 ≤ (walkR xs f next a).2 ∧ (walkR xs f next a).2 ≤ 8
  | 0, next, a => by unfold walkR; (repeat' split) <;> simp
  | f + 1, next, a => by
    have ih := walkR_err f (xs.getD a 0) (a + hsz xs a)
    unfold walkR; (repeat' split) <;> first | exact ih | (constructor <;> dsimp only <;> omega)
end

set_option maxHeartbeats 400000 in
theorem extent_yes (A : Option Addr) (n c a : Nat) (xs : List Int) (w : World) (hn : n ≤ 140737488355328) (h2 : a + 2 ≤ n) (hs : a + hsz xs a ≤ n) (hb : Bs w w.heap.size A n xs) :
    Calls Try.prog 11 #[.slice A n c, .int .i64 a] w fun e w' => e = .returned (.tuple #[.int .i64 (hsz xs a : Nat), .bool true]) ∧ w = w' := by
  obtain ⟨b, o, rfl, hlt, hc⟩ := hb.mem (by omega)
  have c1 := hc (a + 1) (by omega)
  have v1 := hb.nonneg (a + 1)
  unfold hsz at hs ⊢
  generalize xs.getD (a + 1) 0 = x at *
  obtain ⟨y, rfl⟩ : ∃ y : Nat, x = y := ⟨x.toNat, by omega⟩
  rw [Int.toNat_natCast] at hs ⊢
  have hy : y < 256 := by omega
  have h3 : ¬ ((n : Int) - a < 2) := by omega
  have h4 : 8 * ((y : Int) + 1) ≤ n - a := by omega
  clear hc hs hb
  go_enter Try.func11, Try.ntmps11
  go_wp2
  go_ret2
  exact ⟨by simp, rfl⟩
set_option maxHeartbeats 400000 in
theorem extent_no (A : Option Addr) (n c a : Nat) (xs : List Int) (w : World) (hn : n ≤ 140737488355328) (ha : a ≤ n) (hs : ¬ (a + 2 ≤ n ∧ a + hsz xs a ≤ n)) (hb : Bs w w.heap.size A n xs) :
    Calls Try.prog 11 #[.slice A n c, .int .i64 a] w fun e w' => (∃ v : Int, e = .returned (.tuple #[.int .i64 v, .bool false])) ∧ w = w' := by
  by_cases h2 : a + 2 ≤ n
  · obtain ⟨b, o, rfl, hlt, hc⟩ := hb.mem (by omega)
    have c1 := hc (a + 1) (by omega)
    have v1 := hb.nonneg (a + 1)
    unfold hsz at hs
    generalize xs.getD (a + 1) 0 = x at *
    obtain ⟨y, rfl⟩ : ∃ y : Nat, x = y := ⟨x.toNat, by omega⟩
    rw [Int.toNat_natCast] at hs
    have hy : y < 256 := by omega
    have h3 : ¬ ((n : Int) - a < 2) := by omega
    have h4 : ¬ (8 * ((y : Int) + 1) ≤ n - a) := by omega
    clear hc hs hb
    go_enter Try.func11, Try.ntmps11
    go_wp2
    go_ret2
    exact ⟨⟨_, rfl⟩, rfl⟩
  · have h3 : (n : Int) - a < 2 := by omega
    clear hs
    go_enter Try.func11, Try.ntmps11
    go_wp2
    go_ret2
    exact ⟨⟨_, rfl⟩, rfl⟩
end Go.Proofs.Ytnfdfjjdgojeeaa
