/- What the document's own Seal of segments, and its Tcp, Icmp and Reason of packets tell. Conditions: addresses are 16 bytes; what is handed in is at most 2^47 bytes long. -/
import Derived.Test.YtjafjapnmffohaaGreatDoorPkD
import Derived.Test.YtjafjapnmffohaaGreatDoorJTc
import Derived.Test.YtjafjapnmffohaaGreatDoorJTd
import Derived.Test.YtjafjapnmffohaaGreatDoorJIc
import Derived.Test.YtjafjapnmffohaaGreatDoorJCk
import Derived.Test.YtjafjapnmffohaaGreatDoorJSx
set_option maxRecDepth 100000
namespace Go.Proofs.YtjafjapnmffohaaGreatDoor
open Go.RowKit
set_option linter.unusedVariables false

theorem run_build_madeK (c e f s0 s1 s2 s3 s4 s5 s6 s7 s8 s9 s10 s11 s12 s13 s14 s15 d0 d1 d2 d3 d4 d5 d6 d7 d8 d9 d10 d11 d12 d13 d14 d15 : Int) (w : World) :
    (Instr.build 26 #[(2, .int .i64 c), (3, .int .i64 e), (4, .int .i64 f), (5, .agg (cellsB [s0, s1, s2, s3, s4, s5, s6, s7, s8, s9, s10, s11, s12, s13, s14, s15]).toArray), (6, .agg (cellsB [d0, d1, d2, d3, d4, d5, d6, d7, d8, d9, d10, d11, d12, d13, d14, d15]).toArray)]).run Tryz.prog w = .ok (.agg (headC ⟨0, 0, c, e, f, [s0, s1, s2, s3, s4, s5, s6, s7, s8, s9, s10, s11, s12, s13, s14, s15], [d0, d1, d2, d3, d4, d5, d6, d7, d8, d9, d10, d11, d12, d13, d14, d15]⟩).toArray) w := by kernel_rfl
theorem run_build_made (n : Nat) (s d : List Int) (k : Int) (hs : s.length = 16) (hd : d.length = 16) (w : World) :
    (Instr.build 26 #[(2, .int .i64 (n : Int)), (3, .int .i64 k), (4, .int .i64 64), (5, .agg (cellsB s).toArray), (6, .agg (cellsB d).toArray)]).run Tryz.prog w = .ok (.agg (headC (madeH n s d k)).toArray) w := by
  obtain ⟨s0, s1, s2, s3, s4, s5, s6, s7, s8, s9, s10, s11, s12, s13, s14, s15, rfl⟩ := list16 s hs
  obtain ⟨d0, d1, d2, d3, d4, d5, d6, d7, d8, d9, d10, d11, d12, d13, d14, d15, rfl⟩ := list16 d hd
  exact run_build_madeK _ _ _ _ _ _ _ _ _ _ _ _ _ _ _ _ _ _ _ _ _ _ _ _ _ _ _ _ _ _ _ _ _ _ _ w

theorem wpList_build_made {ops : Array Oper} {rest : List Oper} {o : Oper} {a : Act} {w : World} {Q : Exit → Act → World → Prop} (hgd : o.guard = none) (x0 x1 x2 x3 x4 : Operand) (ho : o.op = .build 26 #[(2, x0), (3, x1), (4, x2), (5, x3), (6, x4)])
    (n : Nat) (s d : List Int) (k : Int) (e0 : a.eval x0 = .int .i64 (n : Int)) (e1 : a.eval x1 = .int .i64 k) (e2 : a.eval x2 = .int .i64 64) (e3 : a.eval x3 = .agg (cellsB s).toArray) (e4 : a.eval x4 = .agg (cellsB d).toArray) (hs : s.length = 16) (hd : d.length = 16)
    (hk : wpList Tryz.prog ops Q rest (a.put o.dst (.agg (headC (madeH n s d k)).toArray)) w) : wpList Tryz.prog ops Q (o :: rest) a w :=
  wpList_plain hgd fun K hK => by
    unfold Oper.wp execOp
    simp only [ho, List.map_toArray, List.map_cons, List.map_nil, e0, e1, e2, e3, e4, Sem.run_bind, run_build_made n s d k hs hd, Result.andThen_ok, Sem.run_pure]
    exact hK _ _ hk

theorem sealG_v (s d : List Int) (t : Sg) : (sealG s d t).v = sealB s d t.v := by
  unfold sealG sealB
  by_cases h : canS t.v = 0
  · rw [if_pos h, if_pos h]; rfl
  · rw [if_neg h, if_neg h]

theorem two_stay {w w1 w2 : World} {s d : List Int} (h0 : Hid (Blk w1 24 w.heap.size s)) (h1 : Hid (Blk w1 24 (w.heap.size + 1) d)) (hl : Low w1 w2) :
    Hid (Blk w2 24 w.heap.size s) ∧ Hid (Blk w2 24 (w.heap.size + 1) d) := ⟨Lib.hid (h0.out.below hl h0.out.lt), Lib.hid (h1.out.below hl h1.out.lt)⟩

end Go.Proofs.YtjafjapnmffohaaGreatDoor
