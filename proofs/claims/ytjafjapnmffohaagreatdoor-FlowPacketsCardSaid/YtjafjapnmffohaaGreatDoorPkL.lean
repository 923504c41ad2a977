/- What the program's own upper parts tell: their kind, their bytes; the packets made of them. Conditions: addresses are 16 bytes; what is handed in is at most 2^47 bytes long. -/
import Derived.Test.YtjafjapnmffohaaGreatDoorPkE
import Derived.Test.YtjafjapnmffohaaGreatDoorPkK
import Derived.Test.YtjafjapnmffohaaGreatDoorJSx
import Derived.Handy
set_option maxRecDepth 100000
namespace Go.Proofs.YtjafjapnmffohaaGreatDoor
open Go.RowKit
set_option linter.unusedVariables false

theorem sgm_size : (Tryz.prog.info? 92).map (·.size) = some 10 := by kernel_rfl
theorem mgm_size : (Tryz.prog.info? 94).map (·.size) = some 4 := by kernel_rfl
theorem sgm_zero : (Tryz.prog.info? 92).map (·.zero) = some (some (.agg (segC zeroS).toArray)) := by kernel_rfl
theorem mgm_zero : (Tryz.prog.info? 94).map (·.zero) = some (some (.agg (msgC zeroM).toArray)) := by kernel_rfl
theorem exec_load_sgm {f : Operand → Value} {dd : Option Tmp} {x : Operand} {ty : TypeId} {pos : String} {gd : Option (Nat × Bool)} {w : World} {g : Nat} {t : Sg} (hx : f x = .pointer (some ⟨g, 0, none⟩)) (hb : BlkV w 92 g (segC t)) :
    (execOp f ⟨dd, .load 92 x, ty, pos, #[], gd⟩).run Tryz.prog w = .ok (.value (.agg (segC t).toArray)) w := by
  unfold execOp
  simp only [hx, Instr.loadAt, Instr.sureAddr, Sem.run_bind, Sem.run_pure, Result.andThen_ok, run_loadVar_row w g _ 92 (segC t).toArray _ _ hb Tryz.underlying92 rfl (by rw [sgm_size]; rfl)]
theorem exec_load_mgm {f : Operand → Value} {dd : Option Tmp} {x : Operand} {ty : TypeId} {pos : String} {gd : Option (Nat × Bool)} {w : World} {g : Nat} {t : Mg} (hx : f x = .pointer (some ⟨g, 0, none⟩)) (hb : BlkV w 94 g (msgC t)) :
    (execOp f ⟨dd, .load 94 x, ty, pos, #[], gd⟩).run Tryz.prog w = .ok (.value (.agg (msgC t).toArray)) w := by
  unfold execOp
  simp only [hx, Instr.loadAt, Instr.sureAddr, Sem.run_bind, Sem.run_pure, Result.andThen_ok, run_loadVar_row w g _ 94 (msgC t).toArray _ _ hb Tryz.underlying94 rfl (by rw [mgm_size]; rfl)]

theorem exec_build_made {f : Operand → Value} {dd : Option Tmp} {x0 x1 x2 x3 x4 : Operand} {ty : TypeId} {pos : String} {gd : Option (Nat × Bool)} (w : World) {n : Nat} {s d : List Int} {k : Int} (e0 : f x0 = .int .i64 (n : Int)) (e1 : f x1 = .int .i64 k) (e2 : f x2 = .int .i64 64) (e3 : f x3 = .agg (cellsB s).toArray) (e4 : f x4 = .agg (cellsB d).toArray) (hs : s.length = 16) (hd : d.length = 16) :
    (execOp f ⟨dd, .build 26 #[(2, x0), (3, x1), (4, x2), (5, x3), (6, x4)], ty, pos, #[], gd⟩).run Tryz.prog w = .ok (.value (.agg (headC (madeH n s d k)).toArray)) w := by
  unfold execOp
  simp only [List.map_toArray, List.map_cons, List.map_nil, e0, e1, e2, e3, e4, Sem.run_bind, run_build_made n s d k hs hd, Result.andThen_ok, Sem.run_pure]

theorem sealB_can (s d : List Int) (x : Sb) : canS (sealB s d x) = canS x := by
  by_cases h : canS x = 0
  · rw [(sealB_yes (s := s) (d := d) h).2, h]
  · unfold sealB
    rw [if_neg h]
/-- a packet of bytes that may bear an error -/
def mkE (e : Int) (ys : List Int) : Int := if e = 0 then madeE ys else e
def mkL (s d : List Int) (k e : Int) (ys : List Int) : List Int := if e = 0 then madeL s d k ys else []
def okE (x : Mb) : Int := if okM x = true then 0 else 2
theorem tcp_mk (s d : List Int) (x : Sb) : tcpE s d x = mkE (canS x) (putS (sealB s d x)) ∧ tcpL s d x = mkL s d 6 (canS x) (putS (sealB s d x)) := ⟨rfl, rfl⟩
theorem icmp_mk (s d : List Int) (x : Mb) : icmpE s d x = mkE (okE x) (putM s d x) ∧ icmpL s d x = mkL s d 58 (okE x) (putM s d x) := by
  unfold icmpE icmpL mkE mkL okE
  cases okM x
  · exact ⟨rfl, rfl⟩
  · exact ⟨rfl, rfl⟩

theorem segkind_any (v : Value) (w : World) : Calls Tryz.prog 106 #[v] w fun e w' => e = .returned (.int .i64 6) ∧ w' = w := by
  go_enter Tryz.func106, Tryz.ntmps106
  go_wp2
  go_ret
  exact ⟨rfl, rfl⟩
theorem msgkind_any (v : Value) (w : World) : Calls Tryz.prog 134 #[v] w fun e w' => e = .returned (.int .i64 58) ∧ w' = w := by
  go_enter Tryz.func134, Tryz.ntmps134
  go_wp2
  go_ret
  exact ⟨rfl, rfl⟩

end Go.Proofs.YtjafjapnmffohaaGreatDoor
