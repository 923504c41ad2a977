/- Segments by value and in memory: their cells, loaded and stored. No condition. -/
import Derived.Test.YtkbgfddicpnbmaaTpA
import Derived.Test.YtkbgfddicpnbmaaVals
namespace Go.Proofs.Ytkbgfddicpnbmaa
open Go.RowKit
set_option linter.unusedVariables false

/-- a segment as it lies: its numbers; where its options are, how many, with how much room, and they; where its payload is, how long, with how much room, and it -/
structure Sg where
  sp : Int
  dp : Int
  sq : Int
  ak : Int
  fl : Int
  wi : Int
  su : Int
  ur : Int
  oA : Option Addr
  om : Nat
  oc : Nat
  os : List Od
  pA : Option Addr
  pm : Nat
  pc : Nat
  ps : List Int
/-- what a segment says -/
structure Sb where
  sp : Int
  dp : Int
  sq : Int
  ak : Int
  fl : Int
  wi : Int
  su : Int
  ur : Int
  os : List Ob
  ps : List Int
def Sg.v (t : Sg) : Sb := ⟨t.sp, t.dp, t.sq, t.ak, t.fl, t.wi, t.su, t.ur, t.os.map Od.v, t.ps⟩
/-- its numbers are as their types ask, its options and its payload lie below block B -/
structure Sg.ok (w : World) (B : Nat) (t : Sg) : Prop where
  sp : i64ok t.sp
  dp : i64ok t.dp
  sq : 0 ≤ t.sq ∧ t.sq < 4294967296
  ak : 0 ≤ t.ak ∧ t.ak < 4294967296
  fl : i64ok t.fl
  wi : i64ok t.wi
  su : i64ok t.su
  ur : i64ok t.ur
  om : t.om ≤ 140737488351232
  os : Os w B t.oA t.om t.os
  pm : t.pm ≤ 140737488351232
  ps : Bs w B t.pA t.pm t.ps
section
variable {w w' : World} {B B' : Nat} {t : Sg}
theorem Sg.ok.keep (h : t.ok w B) (hk : ∀ p : Addr, p.block < B → w'.cell? p = w.cell? p) : t.ok w' B := ⟨h.sp, h.dp, h.sq, h.ak, h.fl, h.wi, h.su, h.ur, h.om, h.os.keep hk, h.pm, h.ps.keep hk⟩
theorem Sg.ok.more (h : t.ok w B) (hB : B ≤ B') : t.ok w B' := ⟨h.sp, h.dp, h.sq, h.ak, h.fl, h.wi, h.su, h.ur, h.om, h.os.more hB, h.pm, h.ps.more hB⟩
theorem Sg.ok.below' (h : t.ok w B) (hb : Below B w w') (hB : B ≤ B') : t.ok w' B' := (h.keep fun _ hp => hb.cell hp).more hB
theorem Sg.ok.low (h : t.ok w w.heap.size) (hb : Low w w') : t.ok w' w'.heap.size := h.below' hb hb.size
end

def segC (t : Sg) : List Value := [.int .i64 t.sp, .int .i64 t.dp, .int .u32 t.sq, .int .u32 t.ak, .int .i64 t.fl, .int .i64 t.wi, .int .i64 t.su, .int .i64 t.ur, .slice t.oA t.om t.oc, .slice t.pA t.pm t.pc]
def segV (t : Sg) : Value := .agg (segC t).toArray
def zeroS : Sg := ⟨0, 0, 0, 0, 0, 0, 0, 0, none, 0, 0, [], none, 0, 0, []⟩
def zeroSb : Sb := ⟨0, 0, 0, 0, 0, 0, 0, 0, [], []⟩
theorem zeroS_ok (w : World) (B : Nat) : zeroS.ok w B := ⟨by simp [zeroS, i64ok], by simp [zeroS, i64ok], by simp [zeroS], by simp [zeroS], by simp [zeroS, i64ok], by simp [zeroS, i64ok], by simp [zeroS, i64ok], by simp [zeroS, i64ok], by simp [zeroS], Os.nil _ _ _, by simp [zeroS], Bs.nil _ _ _⟩
theorem segC_length (t : Sg) : (segC t).length = 10 := rfl
theorem segC_one (t : Sg) : (segC t).toArray.all (·.oneCell') = true := by simp [segC, Value.oneCell']
theorem seg_size : (Try.prog.info? 26).map (·.size) = some 10 := by kernel_rfl
theorem seg_zero : (Try.prog.info? 26).map (·.zero) = some (some (.agg (segC zeroS).toArray)) := by kernel_rfl

/-- block g is just the segment t -/
abbrev BlkS (w : World) (g : Nat) (t : Sg) : Prop := BlkV w 26 g (segC t)
theorem BlkS.cells {w : World} {g : Nat} {t : Sg} (h : BlkS w g t) :
    w.cell? ⟨g, 0, none⟩ = some (.int .i64 t.sp) ∧ w.cell? ⟨g, 1, none⟩ = some (.int .i64 t.dp) ∧ w.cell? ⟨g, 2, none⟩ = some (.int .u32 t.sq) ∧ w.cell? ⟨g, 3, none⟩ = some (.int .u32 t.ak) ∧ w.cell? ⟨g, 4, none⟩ = some (.int .i64 t.fl) ∧
    w.cell? ⟨g, 5, none⟩ = some (.int .i64 t.wi) ∧ w.cell? ⟨g, 6, none⟩ = some (.int .i64 t.su) ∧ w.cell? ⟨g, 7, none⟩ = some (.int .i64 t.ur) ∧ w.cell? ⟨g, 8, none⟩ = some (.slice t.oA t.om t.oc) ∧ w.cell? ⟨g, 9, none⟩ = some (.slice t.pA t.pm t.pc) :=
  ⟨h.cell 0, h.cell 1, h.cell 2, h.cell 3, h.cell 4, h.cell 5, h.cell 6, h.cell 7, h.cell 8, h.cell 9⟩
section
variable {ops : Array Oper} {rest : List Oper} {o : Oper} {a : Act} {w : World} {Q : Exit → Act → World → Prop}
theorem wpList_box_seg (hgd : o.guard = none) (x : Operand) (ho : o.op = .box 26 x) (t : Sg) (hx : a.eval x = .agg (segC t).toArray)
    (hk : ∀ w', BlkS w' w.heap.size t → Low w w' → w'.heap.size = w.heap.size + 1 → wpList Try.prog ops Q rest (a.put o.dst (.pointer (some ⟨w.heap.size, 0, none⟩))) w') : wpList Try.prog ops Q (o :: rest) a w :=
  wpList_box_v hgd 26 x ho (segC t) hx hk
theorem wpList_alloc_seg (hgd : o.guard = none) (ho : o.op = .alloc 26)
    (hk : ∀ w', BlkS w' w.heap.size zeroS → Low w w' → w'.heap.size = w.heap.size + 1 → wpList Try.prog ops Q rest (a.put o.dst (.pointer (some ⟨w.heap.size, 0, none⟩))) w') : wpList Try.prog ops Q (o :: rest) a w :=
  wpList_alloc_v hgd 26 ho (segC zeroS) seg_zero hk
theorem wpList_load_seg (hgd : o.guard = none) (x : Operand) (ho : o.op = .load 26 x) (g : Nat) (hx : a.eval x = .pointer (some ⟨g, 0, none⟩)) (t : Sg) (hb : BlkS w g t)
    (hk : wpList Try.prog ops Q rest (a.put o.dst (.agg (segC t).toArray)) w) : wpList Try.prog ops Q (o :: rest) a w :=
  wpList_load_row hgd 26 x ho g hx _ (segC t).toArray (0, 0) _ hb Try.underlying26 rfl (by rw [seg_size]; rfl) hk
theorem wpList_load_seg_g (hw : Region.wanted o (yielded ops a.tmps) = true) (x : Operand) (ho : o.op = .load 26 x) (g : Nat) (hx : a.eval x = .pointer (some ⟨g, 0, none⟩)) (t : Sg) (hb : BlkS w g t)
    (hk : wpList Try.prog ops Q rest (a.put o.dst (.agg (segC t).toArray)) w) : wpList Try.prog ops Q (o :: rest) a w :=
  wpList_step fun K hK => by
    simp only [hw, if_true]
    exact wp_load_row 26 x ho g hx _ (segC t).toArray (0, 0) _ hb Try.underlying26 rfl (by rw [seg_size]; rfl) (hK _ _ hk)
/-- a whole segment is stored -/
theorem wpList_store_seg (hgd : o.guard = none) (x y : Operand) (ho : o.op = .store 26 x y) (g : Nat) (hx : a.eval x = .pointer (some ⟨g, 0, none⟩)) (t : Sg) (hy : a.eval y = .agg (segC t).toArray) (old : Sg) (hb : BlkS w g old)
    (hk : ∀ w', BlkS w' g t → Below g w w' → w'.heap.size = w.heap.size → wpList Try.prog ops Q rest (a.put o.dst undef) w') : wpList Try.prog ops Q (o :: rest) a w :=
  wpList_store_v hgd 26 x y ho g hx (segC t) hy _ (segC old) hb rfl (by rw [seg_size]; rfl) (segC_one t) hk
end
theorem exec_load_seg {f : Operand → Value} {dd : Option Tmp} {x : Operand} {ty : TypeId} {pos : String} {gd : Option (Nat × Bool)} {w : World} {g : Nat} {t : Sg} (hx : f x = .pointer (some ⟨g, 0, none⟩)) (hb : BlkS w g t) :
    (execOp f ⟨dd, .load 26 x, ty, pos, #[], gd⟩).run Try.prog w = .ok (.value (.agg (segC t).toArray)) w := by
  unfold execOp
  simp only [hx, Instr.loadAt, Instr.sureAddr, Sem.run_bind, Sem.run_pure, Result.andThen_ok, run_loadVar_row w g 26 26 (segC t).toArray _ _ hb Try.underlying26 rfl (by rw [seg_size]; rfl)]

/-- are a segment's options few, and is its payload short? -/
def smallB (t : Sg) : Bool := decide (t.om ≤ 60) && decide (t.pm ≤ 70000)
set_option maxHeartbeats 400000 in
theorem small_any (t : Sg) (w : World) (h1 : t.om ≤ 140737488351232) (h2 : t.pm ≤ 140737488351232) :
    Calls Try.prog 8 #[segV t] w fun e w' => e = .returned (.bool (smallB t)) ∧ Below w.heap.size w w' := by
  unfold segV
  by_cases h60 : t.om ≤ 60
  · have hS : smallB t = decide (t.pm ≤ 70000) := by simp [smallB, h60]
    have HS := Lib.hid hS
    have d60 : decide ((t.om : Int) ≤ 60) = true := by simp; omega
    clear hS
    go_enter Try.func8, Try.ntmps8
    go_wp2_with ((with_reducible refine wpList_box_seg rfl (.tmp 0) rfl t rfl ?_); intro w1 HB hL hz1; refine Hid.out ?_)
    refine Lib.hid ?_
    obtain ⟨c0, c1, c2, c3, c4, c5, c6, c7, c8, c9⟩ := BlkS.cells HB
    clear HB c0 c1 c2 c3 c4 c5 c6 c7
    go_wp2_with fail
    go_ret
    exact ⟨by rw [HS.out]; congr 2; simp; omega, hL⟩
  · have hS : smallB t = false := by simp [smallB, h60]
    have HS := Lib.hid hS
    have d60 : decide ((t.om : Int) ≤ 60) = false := by simp; omega
    clear hS
    go_enter Try.func8, Try.ntmps8
    go_wp2_with ((with_reducible refine wpList_box_seg rfl (.tmp 0) rfl t rfl ?_); intro w1 HB hL hz1; refine Hid.out ?_)
    refine Lib.hid ?_
    obtain ⟨c0, c1, c2, c3, c4, c5, c6, c7, c8, c9⟩ := BlkS.cells HB
    clear HB c0 c1 c2 c3 c4 c5 c6 c7
    go_wp2_with fail
    go_ret
    exact ⟨by rw [HS.out]; rfl, hL⟩
end Go.Proofs.Ytkbgfddicpnbmaa
