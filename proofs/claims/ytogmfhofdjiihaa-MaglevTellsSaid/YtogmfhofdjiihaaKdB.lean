/- Stage 15: rotation and a round, as the program and the document have them; the four words in memory. No condition. -/
import Derived.Test.YtogmfhofdjiihaaKdA
import Derived.Test.YtogmfhofdjiihaaVals
import Derived.StillTailTactics
set_option maxRecDepth 100000
namespace Go.Proofs.Ytogmfhofdjiihaa
open Go.RowKit
set_option linter.unusedVariables false

def TurnsBy (s : Nat) : Prop := s = 13 ∨ s = 16 ∨ s = 17 ∨ s = 21 ∨ s = 32
theorem rotl_any (x : Int) (s : Nat) (w : World) (hs : TurnsBy s) : Calls Try.prog 76 #[.int .u64 x, .int .i64 s] w fun e w' => e = .returned (.int .u64 (rotK x s)) ∧ w' = w := by
  rcases hs with rfl | rfl | rfl | rfl | rfl
  all_goals
    first
      | have e1 : bits .and .u64 13 63 = 13 := by decide +kernel
        have e2 : bits .and .u64 16 63 = 16 := by decide +kernel
        have e3 : bits .and .u64 17 63 = 17 := by decide +kernel
        have e4 : bits .and .u64 21 63 = 21 := by decide +kernel
        have e5 : bits .and .u64 32 63 = 32 := by decide +kernel
    go_enter Try.func76, Try.ntmps76
    go_wp2_with fail
    go_ret
    exact ⟨rfl, rfl⟩
theorem left_any (x : Int) (s : Nat) (w : World) (hs : TurnsBy s) : Calls Try.prog 71 #[.int .u64 x, .int .u64 s] w fun e w' => e = .returned (.int .u64 (rotK x s)) ∧ w = w' := by
  rcases hs with rfl | rfl | rfl | rfl | rfl
  all_goals
    go_enter Try.func71, Try.ntmps71
    go_wp2_with fail
    go_ret
    exact ⟨rfl, rfl⟩
theorem results_tmp4K {fn : Func} {t u v x : Tmp} (h : fn.results = #[.tmp t, .tmp u, .tmp v, .tmp x]) (tmps : Array Value) (P : Program) (w : World) :
    (results fn tmps).run P w = .ok (.tuple #[tmps.getD t undef, tmps.getD u undef, tmps.getD v undef, tmps.getD x undef]) w := by
  simp [results, h]
set_option maxHeartbeats 800000 in
theorem rround_any (v : V4) (w : World) : Calls Try.prog 63 #[.int .u64 v.a, .int .u64 v.b, .int .u64 v.c, .int .u64 v.d] w fun e w' => e = .returned (.tuple #[.int .u64 (roundK v).a, .int .u64 (roundK v).b, .int .u64 (roundK v).c, .int .u64 (roundK v).d]) ∧ w = w' := by
  obtain ⟨a, b, c, d⟩ := v
  go_enter Try.func63, Try.ntmps63
  go_wp2_with fail
  refine (left_any _ 13 _ (by simp [TurnsBy])).mono ?_
  rintro e w' ⟨rfl, rfl⟩
  go_wp2_with fail
  refine (left_any _ 32 _ (by simp [TurnsBy])).mono ?_
  rintro e w' ⟨rfl, rfl⟩
  go_wp2_with fail
  refine (left_any _ 16 _ (by simp [TurnsBy])).mono ?_
  rintro e w' ⟨rfl, rfl⟩
  go_wp2_with fail
  refine (left_any _ 21 _ (by simp [TurnsBy])).mono ?_
  rintro e w' ⟨rfl, rfl⟩
  go_wp2_with fail
  refine (left_any _ 17 _ (by simp [TurnsBy])).mono ?_
  rintro e w' ⟨rfl, rfl⟩
  go_wp2_with fail
  refine (left_any _ 32 _ (by simp [TurnsBy])).mono ?_
  rintro e w' ⟨rfl, rfl⟩
  go_wp2_with fail
  (try simp only [Exit.inBlock, Exit.then]); refine bodyPost_ret (results_tmp4K rfl _ _ _) rfl ?_
  exact ⟨rfl, rfl⟩

/-- the four words in memory -/
def wsC (v : V4) : List Value := [.int .u64 v.a, .int .u64 v.b, .int .u64 v.c, .int .u64 v.d]
def BlkW (w : World) (g : Nat) (v : V4) : Prop := BlkV w 99 g (wsC v)
def getK (v : V4) : Nat → Int
  | 0 => v.a
  | 1 => v.b
  | 2 => v.c
  | _ => v.d
def setK (v : V4) (i : Nat) (x : Int) : V4 :=
  match i with
  | 0 => { v with a := x }
  | 1 => { v with b := x }
  | 2 => { v with c := x }
  | _ => { v with d := x }
/-- of what lies elsewhere nothing has turned -/
structure Else_ (g : Nat) (w w' : World) : Prop where
  low : Below g w w'
  size : w'.heap.size = w.heap.size
theorem Else_.refl (g : Nat) (w : World) : Else_ g w w := ⟨Below.refl _ _, rfl⟩
theorem Else_.trans {g : Nat} {a b c : World} (h : Else_ g a b) (k : Else_ g b c) : Else_ g a c := ⟨Below.trans h.low k.low, k.size.trans h.size⟩
theorem Else_.drew {g : Nat} {w w' : World} (h : Else_ g w w') : Else_ g w w'.drew := ⟨h.low.drew, h.size⟩
theorem Else_.drewN {g : Nat} {w w' : World} (h : Else_ g w w') (n : Nat) : Else_ g w (w'.drewN n) := ⟨below_drewN h.low n, h.size⟩
theorem Else_.set_ {g : Nat} {w w' : World} (h : Else_ g w w') (i : Nat) (u : Value) : Else_ g w (w'.setCell ⟨g, i, none⟩ u) := ⟨h.low.setCell (Nat.le_refl _) _, by rw [← h.size]; simp [World.setCell]⟩
theorem BlkW.cell {w : World} {g : Nat} {v : V4} (h : BlkW w g v) (i : Nat) (hi : i < 4) : w.cell? ⟨g, i, none⟩ = some (.int .u64 (getK v i)) := by
  rw [BlkV.cell h]
  have hc : i = 0 ∨ i = 1 ∨ i = 2 ∨ i = 3 := by omega
  rcases hc with rfl | rfl | rfl | rfl <;> rfl
theorem BlkW.set_ {w : World} {g : Nat} {v : V4} (h : BlkW w g v) (i : Nat) (hi : i < 4) (x : Int) : BlkW (w.setCell ⟨g, i, none⟩ (.int .u64 x)) g (setK v i x) := by
  have e : wsC (setK v i x) = (wsC v).set i (.int .u64 x) := by
    have hc : i = 0 ∨ i = 1 ∨ i = 2 ∨ i = 3 := by omega
    rcases hc with rfl | rfl | rfl | rfl <;> rfl
  unfold BlkW
  rw [e]
  exact BlkV.set_ h i _
end Go.Proofs.Ytogmfhofdjiihaa
