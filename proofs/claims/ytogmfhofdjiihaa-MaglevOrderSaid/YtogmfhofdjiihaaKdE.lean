/- Stage 15: a key in memory; the words ahead of all bytes; a word of bytes; a hash as a number below another one. No condition. -/
import Derived.Test.YtogmfhofdjiihaaKdD
import Derived.Test.YtogmfhofdjiihaaEq
set_option maxRecDepth 100000
namespace Go.Proofs.Ytogmfhofdjiihaa
open Go.RowKit
set_option linter.unusedVariables false

/-- a whole row is read -/
theorem wpList_load_v {P : Program} {ops : Array Oper} {rest : List Oper} {o : Oper} {a : Act} {w : World} {Q : Exit → Act → World → Prop} (hgd : o.guard = none) (ty : TypeId) (x : Operand) (ho : o.op = .load ty x) (g : Nat) (hx : a.eval x = .pointer (some ⟨g, 0, none⟩)) (t : TypeId) (vs : List Value) (hb : BlkV w t g vs) (d : TypeDesc)
    (hu : P.underlying ty = some d) (hd : (match d with | .struct _ | .array _ _ => true | _ => false) = true) (hi : (P.info? ty).map (·.size) = some vs.length)
    (hk : wpList P ops Q rest (a.put o.dst (.agg vs.toArray)) w) : wpList P ops Q (o :: rest) a w :=
  wpList_load_row hgd ty x ho g hx t vs.toArray (0, 0) d hb hu hd (by rw [hi]; simp) hk
/-- a whole row is read, where the guard lets it -/
theorem wpList_load_v_g {P : Program} {ops : Array Oper} {rest : List Oper} {o : Oper} {a : Act} {w : World} {Q : Exit → Act → World → Prop} (hw : Region.wanted o (yielded ops a.tmps) = true) (ty : TypeId) (x : Operand) (ho : o.op = .load ty x) (g : Nat) (hx : a.eval x = .pointer (some ⟨g, 0, none⟩)) (t : TypeId) (vs : List Value) (hb : BlkV w t g vs) (d : TypeDesc)
    (hu : P.underlying ty = some d) (hd : (match d with | .struct _ | .array _ _ => true | _ => false) = true) (hi : (P.info? ty).map (·.size) = some vs.length)
    (hk : wpList P ops Q rest (a.put o.dst (.agg vs.toArray)) w) : wpList P ops Q (o :: rest) a w :=
  wpList_step fun K hK => by
    simp only [hw, if_true]
    exact wp_load_row ty x ho g hx t vs.toArray (0, 0) d hb hu hd (by rw [hi]; simp) (hK _ _ hk)
theorem exec_load_v {P : Program} {f : Operand → Value} {dd : Option Tmp} {x : Operand} {ty ty2 : TypeId} {pos : String} {gd : Option (Nat × Bool)} {w : World} {t : TypeId} {g : Nat} {vs : List Value} (hx : f x = .pointer (some ⟨g, 0, none⟩)) (hb : BlkV w t g vs) (d : TypeDesc)
    (hu : P.underlying ty = some d) (hd : (match d with | .struct _ | .array _ _ => true | _ => false) = true) (hi : (P.info? ty).map (·.size) = some vs.length) :
    (execOp f ⟨dd, .load ty x, ty2, pos, #[], gd⟩).run P w = .ok (.value (.agg vs.toArray)) w := by
  unfold execOp
  simp only [hx, Instr.loadAt, Instr.sureAddr, Sem.run_bind, Sem.run_pure, Result.andThen_ok, run_loadVar_row w g t ty vs.toArray _ d hb hu hd (by rw [hi]; simp)]
theorem results_cell1K {P : Program} {fn : Func} {p : Tmp} {ty : TypeId} (h : fn.results = #[.cell p ty]) (tmps : Array Value) (w : World) (g : Nat) (t : TypeId) (vs : List Value) (d : TypeDesc)
    (hp : tmps.getD p undef = .pointer (some ⟨g, 0, none⟩)) (hg : BlkV w t g vs)
    (hu : P.underlying ty = some d) (hd : (match d with | .struct _ | .array _ _ => true | _ => false) = true) (hi : (P.info? ty).map (·.size) = some vs.length) :
    (results fn tmps).run P w = .ok (.agg vs.toArray) w := by
  have hp' : tmps[p]?.getD undef = .pointer (some ⟨g, 0, none⟩) := by simpa using hp
  simp [results, h, hp', asAddr, run_loadVar_row w g t ty vs.toArray (0, 0) d hg hu hd (by rw [hi]; simp)]

def keyC (A B : Int) : List Value := [.int .u64 A, .int .u64 B]
def keyV (A B : Int) : Value := .agg (keyC A B).toArray
def wsV (v : V4) : Value := .agg (wsC v).toArray
theorem key_size : (Try.prog.info? 24).map (·.size) = some 2 := by kernel_rfl
theorem rkey_size : (Try.prog.info? 32).map (·.size) = some 2 := by kernel_rfl
theorem ws_size : (Try.prog.info? 99).map (·.size) = some 4 := by kernel_rfl
theorem ws_zero : (Try.prog.info? 99).map (·.zero) = some (some (.agg (wsC ⟨0, 0, 0, 0⟩).toArray)) := by kernel_rfl
theorem key_zero : (Try.prog.info? 24).map (·.zero) = some (some (.agg (keyC 0 0).toArray)) := by kernel_rfl
theorem rkey_zero : (Try.prog.info? 32).map (·.zero) = some (some (.agg (keyC 0 0).toArray)) := by kernel_rfl
theorem wsC_one (v : V4) : (wsC v).toArray.all (·.oneCell') = true := by simp [wsC, Value.oneCell']
theorem keyC_one (A B : Int) : (keyC A B).toArray.all (·.oneCell') = true := by simp [keyC, Value.oneCell']
theorem key_a {w : World} {t : TypeId} {g : Nat} {A B : Int} (h : BlkV w t g (keyC A B)) : w.cell? ⟨g, 0, none⟩ = some (.int .u64 A) := by rw [BlkV.cell h]; rfl
theorem key_b {w : World} {t : TypeId} {g : Nat} {A B : Int} (h : BlkV w t g (keyC A B)) : w.cell? ⟨g, 1, none⟩ = some (.int .u64 B) := by rw [BlkV.cell h]; rfl

set_option maxHeartbeats 800000 in
theorem begun_any (A B : Int) (w : World) : Calls Try.prog 66 #[keyV A B] w fun e w' => e = .returned (wsV (beginK A B)) ∧ Low w w' := by
  unfold keyV
  go_enter Try.func66, Try.ntmps66
  go_wp2_with (first
    | ((with_reducible refine wpList_box_v rfl _ (.tmp 0) rfl (keyC A B) rfl ?_); intro w1 HB hL hz1)
    | ((with_reducible refine wpList_alloc_v rfl _ rfl _ ws_zero ?_); intro w2 HZ hl hz2; refine Hid.out ?_))
  refine Lib.hid ?_
  have HB2 := HB.below hl HB.lt
  have c0 := key_a HB2
  have c1 := key_b HB2
  rw [hz1] at HZ
  replace hL := Low.trans hL hl
  replace HZ := Lib.hid HZ
  clear HB HB2 hz1 hz2 hl
  go_wp2_with ((refine wpList_store_v rfl _ (.tmp 2) (.tmp 15) rfl (w.heap.size + 1) rfl (wsC (beginK A B)) rfl _ _ HZ.out rfl ws_size (wsC_one _) ?_); intro w3 HG hb3 hz3; refine Hid.out ?_)
  refine Lib.hid ?_
  replace hL := Lib.hid (show Low w w3 from Below.trans hL (hb3.mono (Nat.le_succ _)))
  go_wp2_with fail
  (try simp only [Exit.inBlock, Exit.then])
  exact bodyPost_ret (results_cell1K rfl _ _ _ _ _ _ rfl HG Try.underlying99 rfl ws_size) rfl ⟨rfl, hL.out⟩
end Go.Proofs.Ytogmfhofdjiihaa
