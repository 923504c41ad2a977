/- What the document's Same answers of two packets that say the same: true. No condition. -/
import Derived.Test.YtjafjapnmffohaaGreatDoorPkD
import Derived.Test.YtjafjapnmffohaaGreatDoorJTd
import Derived.Test.YtjafjapnmffohaaGreatDoorJSrB
import Derived.Test.YtjafjapnmffohaaGreatDoorJIc
set_option maxRecDepth 100000
namespace Go.Proofs.YtjafjapnmffohaaGreatDoor
open Go.RowKit
set_option linter.unusedVariables false

section
variable {ops : Array Oper} {rest : List Oper} {o : Oper} {a : Act} {w : World} {Q : Exit → Act → World → Prop}
theorem wpList_load_hd (hgd : o.guard = none) (x : Operand) (ho : o.op = .load 26 x) (b p : Nat) (hx : a.eval x = .pointer (some ⟨b, p, none⟩)) (h : Hd) (hs : h.s.length = 16) (hd : h.d.length = 16) (hc : w.rangeAt b p (headC h))
    (hk : wpList Tryz.prog ops Q rest (a.put o.dst (.agg (headC h).toArray)) w) : wpList Tryz.prog ops Q (o :: rest) a w :=
  wpList_load_mid hgd 26 x ho b p hx (headC h) _ hc Tryz.underlying26 rfl (by rw [head_size]; simp [headC_length hs hd]) hk
theorem wpList_load_srq_g (hw : Region.wanted o (yielded ops a.tmps) = true) (x : Operand) (ho : o.op = .load 30 x) (b p : Nat) (hx : a.eval x = .pointer (some ⟨b, p, none⟩)) (s : Sr) (hc : w.rangeAt b p (srC s))
    (hk : wpList Tryz.prog ops Q rest (a.put o.dst (.agg (srC s).toArray)) w) : wpList Tryz.prog ops Q (o :: rest) a w :=
  wpList_step fun K hK => by
    simp only [hw, if_true]
    exact wp_load_mid 30 x ho b p hx (srC s) _ hc Tryz.underlying30 rfl (by rw [sr_size]; rfl) (hK _ _ hk)
theorem wpList_load_segq_g (hw : Region.wanted o (yielded ops a.tmps) = true) (x : Operand) (ho : o.op = .load 34 x) (b p : Nat) (hx : a.eval x = .pointer (some ⟨b, p, none⟩)) (s : Sg) (hc : w.rangeAt b p (segC s))
    (hk : wpList Tryz.prog ops Q rest (a.put o.dst (.agg (segC s).toArray)) w) : wpList Tryz.prog ops Q (o :: rest) a w :=
  wpList_step fun K hK => by
    simp only [hw, if_true]
    exact wp_load_mid 34 x ho b p hx (segC s) _ hc Tryz.underlying34 rfl (by rw [seg_size]; simp [segC_length]) (hK _ _ hk)
theorem wpList_load_msgq_g (hw : Region.wanted o (yielded ops a.tmps) = true) (x : Operand) (ho : o.op = .load 36 x) (b p : Nat) (hx : a.eval x = .pointer (some ⟨b, p, none⟩)) (s : Mg) (hc : w.rangeAt b p (msgC s))
    (hk : wpList Tryz.prog ops Q rest (a.put o.dst (.agg (msgC s).toArray)) w) : wpList Tryz.prog ops Q (o :: rest) a w :=
  wpList_step fun K hK => by
    simp only [hw, if_true]
    exact wp_load_mid 36 x ho b p hx (msgC s) _ hc Tryz.underlying36 rfl (by rw [msg_size]; simp [msgC_length]) (hK _ _ hk)
end

end Go.Proofs.YtjafjapnmffohaaGreatDoor
