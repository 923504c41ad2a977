/- Messages by value and in memory: their cells, loaded and stored; whether a number lies between two others. No condition. -/
import Derived.Test.YtheagbgojdlfaaaVals
namespace Go.Proofs.Ytheagbgojdlfaaa
open Go.RowKit
set_option linter.unusedVariables false

/-- a message as it lies: its numbers; where its body is, how long, with how much room, and it -/
structure Mg where
  kd : Int
  cd : Int
  wd : Int
  bA : Option Addr
  bm : Nat
  bc : Nat
  bs : List Int
/-- what a message says -/
structure Mb where
  kd : Int
  cd : Int
  wd : Int
  bs : List Int
def Mg.v (m : Mg) : Mb := ⟨m.kd, m.cd, m.wd, m.bs⟩
/-- its numbers are as their types ask, its body lies below block B -/
structure Mg.ok (w : World) (B : Nat) (m : Mg) : Prop where
  kd : i64ok m.kd
  cd : i64ok m.cd
  wd : 0 ≤ m.wd ∧ m.wd < 4294967296
  bm : m.bm ≤ 140737488351232
  bs : Bs w B m.bA m.bm m.bs
section
variable {w w' : World} {B B' : Nat} {m : Mg}
theorem Mg.ok.keep (h : m.ok w B) (hk : ∀ p : Addr, p.block < B → w'.cell? p = w.cell? p) : m.ok w' B := ⟨h.kd, h.cd, h.wd, h.bm, h.bs.keep hk⟩
theorem Mg.ok.more (h : m.ok w B) (hB : B ≤ B') : m.ok w B' := ⟨h.kd, h.cd, h.wd, h.bm, h.bs.more hB⟩
theorem Mg.ok.below' (h : m.ok w B) (hb : Below B w w') (hB : B ≤ B') : m.ok w' B' := (h.keep fun _ hp => hb.cell hp).more hB
theorem Mg.ok.low (h : m.ok w w.heap.size) (hb : Low w w') : m.ok w' w'.heap.size := h.below' hb hb.size
end

def msgC (m : Mg) : List Value := [.int .i64 m.kd, .int .i64 m.cd, .int .u32 m.wd, .slice m.bA m.bm m.bc]
def msgV (m : Mg) : Value := .agg (msgC m).toArray
def zeroM : Mg := ⟨0, 0, 0, none, 0, 0, []⟩
def zeroMb : Mb := ⟨0, 0, 0, []⟩
theorem zeroM_ok (w : World) (B : Nat) : zeroM.ok w B := ⟨by simp [zeroM, i64ok], by simp [zeroM, i64ok], by simp [zeroM], by simp [zeroM], Bs.nil _ _ _⟩
theorem zeroM_v : zeroM.v = zeroMb := rfl
theorem msgC_length (m : Mg) : (msgC m).length = 4 := rfl
theorem msgC_one (m : Mg) : (msgC m).toArray.all (·.oneCell') = true := by simp [msgC, Value.oneCell']
theorem msg_size : (Try.prog.info? 29).map (·.size) = some 4 := by kernel_rfl
theorem msg_zero : (Try.prog.info? 29).map (·.zero) = some (some (.agg (msgC zeroM).toArray)) := by kernel_rfl

/-- block g is just the message m -/
abbrev BlkM (w : World) (g : Nat) (m : Mg) : Prop := BlkV w 29 g (msgC m)
theorem BlkM.cells {w : World} {g : Nat} {m : Mg} (h : BlkM w g m) :
    w.cell? ⟨g, 0, none⟩ = some (.int .i64 m.kd) ∧ w.cell? ⟨g, 1, none⟩ = some (.int .i64 m.cd) ∧ w.cell? ⟨g, 2, none⟩ = some (.int .u32 m.wd) ∧ w.cell? ⟨g, 3, none⟩ = some (.slice m.bA m.bm m.bc) :=
  ⟨h.cell 0, h.cell 1, h.cell 2, h.cell 3⟩
section
variable {ops : Array Oper} {rest : List Oper} {o : Oper} {a : Act} {w : World} {Q : Exit → Act → World → Prop}
theorem wpList_box_msg (hgd : o.guard = none) (x : Operand) (ho : o.op = .box 29 x) (m : Mg) (hx : a.eval x = .agg (msgC m).toArray)
    (hk : ∀ w', BlkM w' w.heap.size m → Low w w' → w'.heap.size = w.heap.size + 1 → wpList Try.prog ops Q rest (a.put o.dst (.pointer (some ⟨w.heap.size, 0, none⟩))) w') : wpList Try.prog ops Q (o :: rest) a w :=
  wpList_box_v hgd 29 x ho (msgC m) hx hk
theorem wpList_alloc_msg (hgd : o.guard = none) (ho : o.op = .alloc 29)
    (hk : ∀ w', BlkM w' w.heap.size zeroM → Low w w' → w'.heap.size = w.heap.size + 1 → wpList Try.prog ops Q rest (a.put o.dst (.pointer (some ⟨w.heap.size, 0, none⟩))) w') : wpList Try.prog ops Q (o :: rest) a w :=
  wpList_alloc_v hgd 29 ho (msgC zeroM) msg_zero hk
theorem wpList_load_msg (hgd : o.guard = none) (x : Operand) (ho : o.op = .load 29 x) (g : Nat) (hx : a.eval x = .pointer (some ⟨g, 0, none⟩)) (m : Mg) (hb : BlkM w g m)
    (hk : wpList Try.prog ops Q rest (a.put o.dst (.agg (msgC m).toArray)) w) : wpList Try.prog ops Q (o :: rest) a w :=
  wpList_load_row hgd 29 x ho g hx _ (msgC m).toArray (0, 0) _ hb Try.underlying29 rfl (by rw [msg_size]; rfl) hk
theorem wpList_load_msg_g (hw : Region.wanted o (yielded ops a.tmps) = true) (x : Operand) (ho : o.op = .load 29 x) (g : Nat) (hx : a.eval x = .pointer (some ⟨g, 0, none⟩)) (m : Mg) (hb : BlkM w g m)
    (hk : wpList Try.prog ops Q rest (a.put o.dst (.agg (msgC m).toArray)) w) : wpList Try.prog ops Q (o :: rest) a w :=
  wpList_step fun K hK => by
    simp only [hw, if_true]
    exact wp_load_row 29 x ho g hx _ (msgC m).toArray (0, 0) _ hb Try.underlying29 rfl (by rw [msg_size]; rfl) (hK _ _ hk)
/-- a whole message is stored: no other block changes -/
theorem wpList_store_msg (hgd : o.guard = none) (x y : Operand) (ho : o.op = .store 29 x y) (g : Nat) (hx : a.eval x = .pointer (some ⟨g, 0, none⟩)) (m : Mg) (hy : a.eval y = .agg (msgC m).toArray) (old : Mg) (hb : BlkM w g old)
    (hk : ∀ w', BlkM w' g m → Below g w w' → (∀ p : Addr, p.block ≠ g → w'.cell? p = w.cell? p) → w'.heap.size = w.heap.size → wpList Try.prog ops Q rest (a.put o.dst undef) w') : wpList Try.prog ops Q (o :: rest) a w :=
  wpList_store_row hgd 29 x y ho g _ hx hy _ _ hb (by rw [msg_size]; rfl) rfl (msgC_one m) (hk _ (BlkV.setRow hb _) (low_setRow _ _ _ (Nat.le_refl _)) (fun p hp => World.cell?_of_block (by simp [World.setRow, Array.getElem?_modify, Ne.symm hp])) (by simp))
end
theorem exec_load_msg {f : Operand → Value} {dd : Option Tmp} {x : Operand} {ty : TypeId} {pos : String} {gd : Option (Nat × Bool)} {w : World} {g : Nat} {m : Mg} (hx : f x = .pointer (some ⟨g, 0, none⟩)) (hb : BlkM w g m) :
    (execOp f ⟨dd, .load 29 x, ty, pos, #[], gd⟩).run Try.prog w = .ok (.value (.agg (msgC m).toArray)) w := by
  unfold execOp
  simp only [hx, Instr.loadAt, Instr.sureAddr, Sem.run_bind, Sem.run_pure, Result.andThen_ok, run_loadVar_row w g 29 29 (msgC m).toArray _ _ hb Try.underlying29 rfl (by rw [msg_size]; rfl)]

/-- a message and a value are handed back -/
def GivesM (w : World) (r : Mb) (x : Value) (e : Ending) (w' : World) : Prop :=
  ∃ m : Mg, e = .returned (.tuple #[msgV m, x]) ∧ m.v = r ∧ m.ok w' w'.heap.size ∧ Below w.heap.size w w'
theorem GivesM.of {w w' : World} {r : Mb} {x y : Value} {m : Mg} (hr : m.v = r) (hx : x = y) (hk : m.ok w' w'.heap.size) (hB : Below w.heap.size w w') : GivesM w r x (.returned (.tuple #[msgV m, y])) w' := by
  subst hx
  exact ⟨m, rfl, hr, hk, hB⟩
/-- its body lies in memory from block lo on -/
def MFrom (lo : Nat) (m : Mg) : Prop := 0 < m.bm → ∃ b o, m.bA = some ⟨b, o, none⟩ ∧ lo ≤ b
theorem zeroM_from (lo : Nat) : MFrom lo zeroM := fun h => absurd h (by show ¬ 0 < 0; omega)
theorem MFrom.at_ {lo g n c : Nat} {kd cd wd : Int} {bs : List Int} (h : lo ≤ g) : MFrom lo ⟨kd, cd, wd, some ⟨g, 0, none⟩, n, c, bs⟩ := fun _ => ⟨g, 0, rfl, h⟩
theorem MFrom.own {t : TypeId} {w : World} {base lo n c k : Nat} {A : Option Addr} {ys bs : List Int} {kd cd wd : Int} (h : OwnB t w base A n c ys) (hl : lo ≤ base) : MFrom lo ⟨kd, cd, wd, A, n, k, bs⟩ := fun hn => by
  obtain ⟨g, cap, hv, hbg, _⟩ := h.1.form hn
  have hA : A = some ⟨g, 0, none⟩ := by injection hv
  exact ⟨g, 0, hA, by omega⟩
/-- a message that lies elsewhere stays where a block changes -/
theorem Mg.ok.other {w w' : World} {B lo g : Nat} {m : Mg} (h : m.ok w B) (hf : MFrom lo m) (hg : g < lo) (hk : ∀ p : Addr, p.block ≠ g → w'.cell? p = w.cell? p) : m.ok w' B :=
  ⟨h.kd, h.cd, h.wd, h.bm, ⟨h.bs.len, h.bs.all, fun hn => by
    obtain ⟨b, o, e, hb, hc⟩ := h.bs.mem hn
    obtain ⟨b', o', e', hl⟩ := hf hn
    rw [e] at e'
    injection e' with e'
    injection e' with e1 e2 _
    subst e1 e2
    exact ⟨b, o, e, hb, fun i hi => (hk _ (by show b ≠ g; omega)).trans (hc i hi)⟩⟩⟩
/-- a message and a value are handed back, the message's body in new memory -/
def GivesMF (w : World) (r : Mb) (x : Value) (e : Ending) (w' : World) : Prop :=
  ∃ m : Mg, e = .returned (.tuple #[msgV m, x]) ∧ m.v = r ∧ m.ok w' w'.heap.size ∧ Below w.heap.size w w' ∧ MFrom w.heap.size m
theorem GivesMF.of {w w' : World} {r : Mb} {x y : Value} {m : Mg} (hr : m.v = r) (hx : x = y) (hk : m.ok w' w'.heap.size) (hB : Below w.heap.size w w') (hf : MFrom w.heap.size m) : GivesMF w r x (.returned (.tuple #[msgV m, y])) w' := by
  subst hx
  exact ⟨m, rfl, hr, hk, hB, hf⟩
theorem ret_msg {fn : Func} {p q : Tmp} {R : Ending → World → Prop} {tmps : Array Value} {df : List Deferred} {w : World} {g : Nat} {m : Mg} {x : Value} (hfn : fn.results = #[.cell p 29, .tmp q]) (hp : tmps.getD p undef = .pointer (some ⟨g, 0, none⟩)) (hq : tmps.getD q undef = x)
    (hb : BlkM w g m) (hR : R (.returned (.tuple #[msgV m, x])) w) (hd : df = []) : bodyPost Try.prog fn R .ret ⟨tmps, df⟩ w :=
  bodyPost_ret (results_cell_tmp hfn tmps w g _ _ _ _ _ hp hq hb Try.underlying29 rfl (by rw [msg_size]; rfl)) hd hR

/-- what lies in a block of its own stays where another block changes -/
theorem Blk.other {w w' : World} {t : TypeId} {g g' : Nat} {ys : List Int} (h : Blk w t g ys) (ha : AllB ys) (hg : g ≠ g') (hk : ∀ p : Addr, p.block ≠ g' → w'.cell? p = w.cell? p) {B n : Nat} (hB : g < B) (hn : ys.length = n) : Bs w' B (some ⟨g, 0, none⟩) n ys :=
  ⟨hn, ha, fun _ => ⟨g, 0, rfl, hB, fun i hi => by rw [hk _ hg, Nat.zero_add, h.cell i, cellsB_get (by omega)]⟩⟩
theorem OwnB.other {w w' : World} {t : TypeId} {base n c g' : Nat} {A : Option Addr} {ys : List Int} (h : OwnB t w base A n c ys) (hg : g' < base) (hk : ∀ p : Addr, p.block ≠ g' → w'.cell? p = w.cell? p) {B : Nat} (hB : w.heap.size ≤ B) : Bs w' B A n ys := by
  have hb := h.bs (Nat.le_refl _)
  refine ⟨hb.len, hb.all, fun hn => ?_⟩
  obtain ⟨b, o, e, hlt, hc⟩ := hb.mem hn
  obtain ⟨g, cap, hv, hbg, _⟩ := h.1.form hn
  have hA : A = some ⟨g, 0, none⟩ := by injection hv
  rw [hA] at e
  injection e with e
  injection e with e1 e2 _
  subst e1 e2
  exact ⟨_, _, hA, by omega, fun i hi => (hk _ (by show g ≠ g'; omega)).trans (hc i hi)⟩

/-- does a number lie between two others? -/
def inB (lo hi n : Int) : Bool := decide (lo ≤ n ∧ n ≤ hi)
def spanF (lo hi : Int) : Value := .func (.func 34) #[.agg #[.int .i64 lo, .int .i64 hi]] #[]
set_option maxHeartbeats 400000 in
theorem span_has (lo hi n : Int) (w : World) : Calls Try.prog 34 #[.agg #[.int .i64 lo, .int .i64 hi], .int .i64 n] w fun e w' => e = .returned (.bool (inB lo hi n)) ∧ Below w.heap.size w w' := by
  by_cases h1 : lo ≤ n
  · have d1 : decide (lo ≤ n) = true := decide_eq_true h1
    have HX := Lib.hid (show inB lo hi n = decide (n ≤ hi) by unfold inB; simp [h1])
    clear h1
    go_enter Try.func34, Try.ntmps34
    go_wp2_with fail
    go_ret
    exact ⟨by rw [HX.out]; rfl, (Below.refl _ _).alloc (Nat.le_refl _) _⟩
  · have d1 : decide (lo ≤ n) = false := decide_eq_false h1
    have HX := Lib.hid (show inB lo hi n = false by unfold inB; simp [h1])
    clear h1
    go_enter Try.func34, Try.ntmps34
    go_wp2_with fail
    go_ret
    exact ⟨by rw [HX.out]; rfl, (Below.refl _ _).alloc (Nat.le_refl _) _⟩
theorem asByte_any (w : World) : Calls Try.prog 18 #[] w fun e w' => e = .returned (spanF 0 255) ∧ w' = w := by
  go_enter Try.func18, Try.ntmps18
  go_wp2_with fail
  go_ret
  exact ⟨rfl, rfl⟩
theorem asError_any (w : World) : Calls Try.prog 33 #[] w fun e w' => e = .returned (spanF 0 127) ∧ w' = w := by
  go_enter Try.func33, Try.ntmps33
  go_wp2_with fail
  go_ret
  exact ⟨rfl, rfl⟩
set_option maxHeartbeats 400000 in
/-- is a message an error? -/
theorem isError_any (m : Mg) (w : World) : Calls Try.prog 17 #[msgV m] w fun e w' => e = .returned (.bool (inB 0 127 m.kd)) ∧ Below w.heap.size w w' := by
  unfold msgV
  go_enter Try.func17, Try.ntmps17
  go_wp2_with ((with_reducible refine wpList_box_msg rfl (.tmp 0) rfl m rfl ?_); intro w1 HB hL hz1; refine Hid.out ?_)
  refine Lib.hid ?_
  replace HB := Lib.hid HB
  go_wp2_with fail
  refine (asError_any w1).mono ?_
  rintro e w2 ⟨rfl, rfl⟩
  unfold spanF
  obtain ⟨c0, c1, c2, c3⟩ := BlkM.cells HB.out
  clear c1 c2 c3
  go_wp2_with fail
  refine (span_has 0 127 m.kd w2).mono ?_
  rintro e w3 ⟨rfl, hB3⟩
  replace hL := Low.trans hL hB3
  clear hB3 c0
  go_wp2_with fail
  go_ret
  exact ⟨rfl, hL⟩
end Go.Proofs.Ytheagbgojdlfaaa
