/- Two addresses in one struct: its halves are read whole. And the law of a check that is put in. No condition. -/
import Derived.Test.YtheagbgojdlfaaaCkL
import Derived.Deep.MidRow
namespace Go.Proofs.Ytheagbgojdlfaaa
open Go.RowKit
set_option linter.unusedVariables false

/-- two addresses by value -/
def endsV (s d : List Int) : Value := .agg (cellsB (s ++ d)).toArray
theorem Blk.half1 {w : World} {t : TypeId} {g : Nat} {s d : List Int} (h : Blk w t g (s ++ d)) : w.rangeAt g 0 (cellsB s) := fun j v hv => by
  have hj : j < (cellsB s).length := (List.getElem?_eq_some_iff.1 hv).1
  rw [Nat.zero_add, h.cell j, cellsB_append, List.getElem?_append_left hj]
  exact hv
theorem Blk.half2 {w : World} {t : TypeId} {g : Nat} {s d : List Int} (h : Blk w t g (s ++ d)) (hs : s.length = 16) : w.rangeAt g 16 (cellsB d) := fun j v hv => by
  rw [h.cell (16 + j), cellsB_append, List.getElem?_append_right (by rw [cellsB_length, hs]; omega), cellsB_length, hs, show 16 + j - 16 = j by omega]
  exact hv
theorem wpList_load_half1 {ops : Array Oper} {rest : List Oper} {o : Oper} {a : Act} {w : World} {Q : Exit → Act → World → Prop} (hgd : o.guard = none) (x : Operand) (ho : o.op = .load 23 x)
    (g : Nat) (hx : a.eval x = .pointer (some ⟨g, 0, none⟩)) (t : TypeId) (s d : List Int) (h : Blk w t g (s ++ d)) (hs : s.length = 16)
    (hk : wpList Try.prog ops Q rest (a.put o.dst (.agg (cellsB s).toArray)) w) : wpList Try.prog ops Q (o :: rest) a w :=
  wpList_load_mid hgd 23 x ho g 0 hx (cellsB s) _ h.half1 Try.underlying23 rfl (by rw [addr_size]; simp [cellsB_length, hs]) hk
theorem wpList_load_half2 {ops : Array Oper} {rest : List Oper} {o : Oper} {a : Act} {w : World} {Q : Exit → Act → World → Prop} (hgd : o.guard = none) (x : Operand) (ho : o.op = .load 23 x)
    (g : Nat) (hx : a.eval x = .pointer (some ⟨g, 16, none⟩)) (t : TypeId) (s d : List Int) (h : Blk w t g (s ++ d)) (hs : s.length = 16) (hd : d.length = 16)
    (hk : wpList Try.prog ops Q rest (a.put o.dst (.agg (cellsB d).toArray)) w) : wpList Try.prog ops Q (o :: rest) a w :=
  wpList_load_mid hgd 23 x ho g 16 hx (cellsB d) _ (h.half2 hs) Try.underlying23 rfl (by rw [addr_size]; simp [cellsB_length, hd]) hk

theorem wpList_load_half1_g {ops : Array Oper} {rest : List Oper} {o : Oper} {a : Act} {w : World} {Q : Exit → Act → World → Prop} (hw : Region.wanted o (yielded ops a.tmps) = true) (x : Operand) (ho : o.op = .load 23 x)
    (g : Nat) (hx : a.eval x = .pointer (some ⟨g, 0, none⟩)) (t : TypeId) (s d : List Int) (h : Blk w t g (s ++ d)) (hs : s.length = 16)
    (hk : wpList Try.prog ops Q rest (a.put o.dst (.agg (cellsB s).toArray)) w) : wpList Try.prog ops Q (o :: rest) a w :=
  wpList_step fun K hK => by
    simp only [hw, if_true]
    exact wp_load_mid 23 x ho g 0 hx (cellsB s) _ h.half1 Try.underlying23 rfl (by rw [addr_size]; simp [cellsB_length, hs]) (hK _ _ hk)
theorem wpList_load_half2_g {ops : Array Oper} {rest : List Oper} {o : Oper} {a : Act} {w : World} {Q : Exit → Act → World → Prop} (hw : Region.wanted o (yielded ops a.tmps) = true) (x : Operand) (ho : o.op = .load 23 x)
    (g : Nat) (hx : a.eval x = .pointer (some ⟨g, 16, none⟩)) (t : TypeId) (s d : List Int) (h : Blk w t g (s ++ d)) (hs : s.length = 16) (hd : d.length = 16)
    (hk : wpList Try.prog ops Q rest (a.put o.dst (.agg (cellsB d).toArray)) w) : wpList Try.prog ops Q (o :: rest) a w :=
  wpList_step fun K hK => by
    simp only [hw, if_true]
    exact wp_load_mid 23 x ho g 16 hx (cellsB d) _ (h.half2 hs) Try.underlying23 rfl (by rw [addr_size]; simp [cellsB_length, hd]) (hK _ _ hk)
theorem exec_half1 {f : Operand → Value} {dd : Option Tmp} {x : Operand} {ty : TypeId} {pos : String} {gd : Option (Nat × Bool)} {w : World} {t : TypeId} {g : Nat} {s d : List Int} (hx : f x = .pointer (some ⟨g, 0, none⟩)) (h : Blk w t g (s ++ d)) (hs : s.length = 16) :
    (execOp f ⟨dd, .load 23 x, ty, pos, #[], gd⟩).run Try.prog w = .ok (.value (.agg (cellsB s).toArray)) w := by
  unfold execOp
  simp only [hx, Instr.loadAt, Instr.sureAddr, Sem.run_bind, Sem.run_pure, Result.andThen_ok, run_loadVar_mid w g 0 23 (cellsB s) _ h.half1 Try.underlying23 rfl (by rw [addr_size]; simp [cellsB_length, hs])]
theorem exec_half2 {f : Operand → Value} {dd : Option Tmp} {x : Operand} {ty : TypeId} {pos : String} {gd : Option (Nat × Bool)} {w : World} {t : TypeId} {g : Nat} {s d : List Int} (hx : f x = .pointer (some ⟨g, 16, none⟩)) (h : Blk w t g (s ++ d)) (hs : s.length = 16) (hd : d.length = 16) :
    (execOp f ⟨dd, .load 23 x, ty, pos, #[], gd⟩).run Try.prog w = .ok (.value (.agg (cellsB d).toArray)) w := by
  unfold execOp
  simp only [hx, Instr.loadAt, Instr.sureAddr, Sem.run_bind, Sem.run_pure, Result.andThen_ok, run_loadVar_mid w g 16 23 (cellsB d) _ (h.half2 hs) Try.underlying23 rfl (by rw [addr_size]; simp [cellsB_length, hd])]

theorem pseudoL_all {s d : List Int} (vs : AllB s) (vd : AllB d) (len next : Int) : AllB (pseudoL s d len next) :=
  ((vs.append vd).append (four_all _ (by omega))).append (.cons (by omega) (by omega) (.cons (by omega) (by omega) (.cons (by omega) (by omega) (.cons (by omega) (by omega) .nil))))
theorem chk_fold {s d xs : List Int} (vs : AllB s) (vd : AllB d) (vx : AllB xs) (next : Int) : chk s d next xs = fold (tot (pseudoL s d xs.length next) + tot xs) :=
  jn_fold (tot_nonneg _ (pseudoL_all vs vd _ _)) (tot_nonneg _ vx)
theorem fine_law {s d xs : List Int} (vs : AllB s) (vd : AllB d) (vx : AllB xs) (next : Int) (p : Nat) (h : p + 2 ≤ xs.length) (he : p % 2 = 0) (h0 : xs.getD p 0 = 0) (h1 : xs.getD (p + 1) 0 = 0) :
    fineB s d next ((xs.set p (nt (chk s d next xs) / 256 % 256)).set (p + 1) (nt (chk s d next xs) % 256)) = true := by
  have hn := nt_range (chk s d next xs)
  have ha : AllB ((xs.set p (nt (chk s d next xs) / 256 % 256)).set (p + 1) (nt (chk s d next xs) % 256)) := (vx.set p (by omega) (by omega)).set (p + 1) (by omega) (by omega)
  have ht := tot_set xs p (nt (chk s d next xs) / 256 % 256) (nt (chk s d next xs) % 256) h he
  have hz : num2 xs p = 0 := by unfold num2; rw [h0, h1]; rfl
  rw [hz] at ht
  unfold fineB
  rw [chk_fold vs vd ha, List.length_set, List.length_set, ht]
  have hP := tot_nonneg _ (pseudoL_all vs vd xs.length next)
  have hX := tot_nonneg _ vx
  have e : nt (chk s d next xs) = 65535 - chk s d next xs := by
    rw [chk_fold vs vd vx]
    have := fold_range (tot (pseudoL s d xs.length next) + tot xs)
    unfold nt; omega
  have hf := fold_range (tot (pseudoL s d xs.length next) + tot xs)
  rw [chk_fold vs vd vx] at e hn ⊢
  generalize tot (pseudoL s d xs.length next) = a at *
  generalize tot xs = b at *
  have hj := jn_fold_num (a := a + b) (by omega) hn.1 hn.2
  rw [show a + (b - 0 + (nt (fold (a + b)) / 256 % 256 * 256 + nt (fold (a + b)) % 256)) = a + b + nt (fold (a + b)) by omega, ← hj, e]
  unfold jn
  rw [if_neg (by omega)]
  simp
  omega
end Go.Proofs.Ytheagbgojdlfaaa
