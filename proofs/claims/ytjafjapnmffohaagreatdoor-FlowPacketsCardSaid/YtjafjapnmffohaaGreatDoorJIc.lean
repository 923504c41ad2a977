/- Texts joined.
  Messages by value and in memory: their cells, loaded and stored; whether a number lies between two others. No condition.
  What icmp.Put answers: the bytes of a message. Conditions: addresses are 16 bytes; the body is at most 2^47 - 8192 bytes long.
  What the document's Put answers: the bytes of a message. Conditions: addresses are 16 bytes; the body is at most 2^47 - 8192 bytes long.
  What icmp.Parse answers: the message of bytes. Conditions: addresses are 16 bytes; at most 2^47 - 4096 bytes.
  What the document's Parse answers: the message of bytes. Conditions: addresses are 16 bytes; at most 2^47 - 4096 bytes.
  What the document's Same answers of two messages that say the same: true. And the answers to an echo. Condition: the body is at most 2^47 - 4096 bytes long.
  What icmp.About answers: the error about a packet. Condition: at most 2^47 - 4096 bytes.
  What the document's About answers: the error about a packet. Condition: at most 2^47 - 4096 bytes.
  What the laws' own small test of messages answers: true. And what was put is parsed as what it was. No condition.
-/
import Derived.Test.YtjafjapnmffohaaGreatDoorVals
import Derived.Test.YtjafjapnmffohaaGreatDoorJCk
import Derived.Test.YtjafjapnmffohaaGreatDoorJReg
import Derived.Test.YtjafjapnmffohaaGreatDoorJOct
import Derived.Test.YtjafjapnmffohaaGreatDoorApp
import Derived.Test.YtjafjapnmffohaaGreatDoorSlc
import Derived.Test.YtjafjapnmffohaaGreatDoorJSx
set_option maxRecDepth 100000
namespace Go.Proofs.YtjafjapnmffohaaGreatDoor
open Go.RowKit
set_option linter.unusedVariables false

/-- a message as it lies: its numbers; where its body is, how long, with how much room, and it -/
structure Mg where
  kd : Int
  cd : Int
  wd : Int
  bA : Option Addr
  bm : Nat
  bc : Nat
  bs : List Int
/-- what a message says -/
structure Mb where
  kd : Int
  cd : Int
  wd : Int
  bs : List Int
def Mg.v (m : Mg) : Mb := ⟨m.kd, m.cd, m.wd, m.bs⟩
/-- its numbers are as their types ask, its body lies below block B -/
structure Mg.ok (w : World) (B : Nat) (m : Mg) : Prop where
  kd : i64ok m.kd
  cd : i64ok m.cd
  wd : 0 ≤ m.wd ∧ m.wd < 4294967296
  bm : m.bm ≤ 140737488351232
  bs : Bs w B m.bA m.bm m.bs
section
variable {w w' : World} {B B' : Nat} {m : Mg}
theorem Mg.ok.keep (h : m.ok w B) (hk : ∀ p : Addr, p.block < B → w'.cell? p = w.cell? p) : m.ok w' B := ⟨h.kd, h.cd, h.wd, h.bm, h.bs.keep hk⟩
theorem Mg.ok.more (h : m.ok w B) (hB : B ≤ B') : m.ok w B' := ⟨h.kd, h.cd, h.wd, h.bm, h.bs.more hB⟩
theorem Mg.ok.below' (h : m.ok w B) (hb : Below B w w') (hB : B ≤ B') : m.ok w' B' := (h.keep fun _ hp => hb.cell hp).more hB
theorem Mg.ok.low (h : m.ok w w.heap.size) (hb : Low w w') : m.ok w' w'.heap.size := h.below' hb hb.size
end

def msgC (m : Mg) : List Value := [.int .i64 m.kd, .int .i64 m.cd, .int .u32 m.wd, .slice m.bA m.bm m.bc]
def msgV (m : Mg) : Value := .agg (msgC m).toArray
def zeroM : Mg := ⟨0, 0, 0, none, 0, 0, []⟩
def zeroMb : Mb := ⟨0, 0, 0, []⟩
theorem zeroM_ok (w : World) (B : Nat) : zeroM.ok w B := ⟨by simp [zeroM, i64ok], by simp [zeroM, i64ok], by simp [zeroM], by simp [zeroM], Bs.nil _ _ _⟩
theorem zeroM_v : zeroM.v = zeroMb := rfl
theorem msgC_length (m : Mg) : (msgC m).length = 4 := rfl
theorem msgC_one (m : Mg) : (msgC m).toArray.all (·.oneCell') = true := by simp [msgC, Value.oneCell']
theorem msg_size : (Tryz.prog.info? 36).map (·.size) = some 4 := by kernel_rfl
theorem msg_zero : (Tryz.prog.info? 36).map (·.zero) = some (some (.agg (msgC zeroM).toArray)) := by kernel_rfl

/-- block g is just the message m -/
abbrev BlkM (w : World) (g : Nat) (m : Mg) : Prop := BlkV w 36 g (msgC m)
theorem BlkM.cells {w : World} {g : Nat} {m : Mg} (h : BlkM w g m) :
    w.cell? ⟨g, 0, none⟩ = some (.int .i64 m.kd) ∧ w.cell? ⟨g, 1, none⟩ = some (.int .i64 m.cd) ∧ w.cell? ⟨g, 2, none⟩ = some (.int .u32 m.wd) ∧ w.cell? ⟨g, 3, none⟩ = some (.slice m.bA m.bm m.bc) :=
  ⟨h.cell 0, h.cell 1, h.cell 2, h.cell 3⟩
section
variable {ops : Array Oper} {rest : List Oper} {o : Oper} {a : Act} {w : World} {Q : Exit → Act → World → Prop}
theorem wpList_box_msg (hgd : o.guard = none) (x : Operand) (ho : o.op = .box 36 x) (m : Mg) (hx : a.eval x = .agg (msgC m).toArray)
    (hk : ∀ w', BlkM w' w.heap.size m → Low w w' → w'.heap.size = w.heap.size + 1 → wpList Tryz.prog ops Q rest (a.put o.dst (.pointer (some ⟨w.heap.size, 0, none⟩))) w') : wpList Tryz.prog ops Q (o :: rest) a w :=
  wpList_box_v hgd 36 x ho (msgC m) hx hk
theorem wpList_alloc_msg (hgd : o.guard = none) (ho : o.op = .alloc 36)
    (hk : ∀ w', BlkM w' w.heap.size zeroM → Low w w' → w'.heap.size = w.heap.size + 1 → wpList Tryz.prog ops Q rest (a.put o.dst (.pointer (some ⟨w.heap.size, 0, none⟩))) w') : wpList Tryz.prog ops Q (o :: rest) a w :=
  wpList_alloc_v hgd 36 ho (msgC zeroM) msg_zero hk
theorem wpList_load_msg (hgd : o.guard = none) (x : Operand) (ho : o.op = .load 36 x) (g : Nat) (hx : a.eval x = .pointer (some ⟨g, 0, none⟩)) (m : Mg) (hb : BlkM w g m)
    (hk : wpList Tryz.prog ops Q rest (a.put o.dst (.agg (msgC m).toArray)) w) : wpList Tryz.prog ops Q (o :: rest) a w :=
  wpList_load_row hgd 36 x ho g hx _ (msgC m).toArray (0, 0) _ hb Tryz.underlying36 rfl (by rw [msg_size]; rfl) hk
theorem wpList_load_msg_g (hw : Region.wanted o (yielded ops a.tmps) = true) (x : Operand) (ho : o.op = .load 36 x) (g : Nat) (hx : a.eval x = .pointer (some ⟨g, 0, none⟩)) (m : Mg) (hb : BlkM w g m)
    (hk : wpList Tryz.prog ops Q rest (a.put o.dst (.agg (msgC m).toArray)) w) : wpList Tryz.prog ops Q (o :: rest) a w :=
  wpList_step fun K hK => by
    simp only [hw, if_true]
    exact wp_load_row 36 x ho g hx _ (msgC m).toArray (0, 0) _ hb Tryz.underlying36 rfl (by rw [msg_size]; rfl) (hK _ _ hk)
/-- a whole message is stored: no other block changes -/
theorem wpList_store_msg (hgd : o.guard = none) (x y : Operand) (ho : o.op = .store 36 x y) (g : Nat) (hx : a.eval x = .pointer (some ⟨g, 0, none⟩)) (m : Mg) (hy : a.eval y = .agg (msgC m).toArray) (old : Mg) (hb : BlkM w g old)
    (hk : ∀ w', BlkM w' g m → Below g w w' → (∀ p : Addr, p.block ≠ g → w'.cell? p = w.cell? p) → w'.heap.size = w.heap.size → wpList Tryz.prog ops Q rest (a.put o.dst undef) w') : wpList Tryz.prog ops Q (o :: rest) a w :=
  wpList_store_row hgd 36 x y ho g _ hx hy _ _ hb (by rw [msg_size]; rfl) rfl (msgC_one m) (hk _ (BlkV.setRow hb _) (low_setRow _ _ _ (Nat.le_refl _)) (fun p hp => World.cell?_of_block (by simp [World.setRow, Array.getElem?_modify, Ne.symm hp])) (by simp))
end
theorem exec_load_msg {f : Operand → Value} {dd : Option Tmp} {x : Operand} {ty : TypeId} {pos : String} {gd : Option (Nat × Bool)} {w : World} {g : Nat} {m : Mg} (hx : f x = .pointer (some ⟨g, 0, none⟩)) (hb : BlkM w g m) :
    (execOp f ⟨dd, .load 36 x, ty, pos, #[], gd⟩).run Tryz.prog w = .ok (.value (.agg (msgC m).toArray)) w := by
  unfold execOp
  simp only [hx, Instr.loadAt, Instr.sureAddr, Sem.run_bind, Sem.run_pure, Result.andThen_ok, run_loadVar_row w g 36 36 (msgC m).toArray _ _ hb Tryz.underlying36 rfl (by rw [msg_size]; rfl)]

/-- a message and a value are handed back -/
def GivesM (w : World) (r : Mb) (x : Value) (e : Ending) (w' : World) : Prop :=
  ∃ m : Mg, e = .returned (.tuple #[msgV m, x]) ∧ m.v = r ∧ m.ok w' w'.heap.size ∧ Below w.heap.size w w'
theorem GivesM.of {w w' : World} {r : Mb} {x y : Value} {m : Mg} (hr : m.v = r) (hx : x = y) (hk : m.ok w' w'.heap.size) (hB : Below w.heap.size w w') : GivesM w r x (.returned (.tuple #[msgV m, y])) w' := by
  subst hx
  exact ⟨m, rfl, hr, hk, hB⟩
/-- its body lies in memory from block lo on -/
def MFrom (lo : Nat) (m : Mg) : Prop := 0 < m.bm → ∃ b o, m.bA = some ⟨b, o, none⟩ ∧ lo ≤ b
theorem zeroM_from (lo : Nat) : MFrom lo zeroM := fun h => absurd h (by show ¬ 0 < 0; omega)
theorem MFrom.at_ {lo g n c : Nat} {kd cd wd : Int} {bs : List Int} (h : lo ≤ g) : MFrom lo ⟨kd, cd, wd, some ⟨g, 0, none⟩, n, c, bs⟩ := fun _ => ⟨g, 0, rfl, h⟩
theorem MFrom.own {t : TypeId} {w : World} {base lo n c k : Nat} {A : Option Addr} {ys bs : List Int} {kd cd wd : Int} (h : OwnB t w base A n c ys) (hl : lo ≤ base) : MFrom lo ⟨kd, cd, wd, A, n, k, bs⟩ := fun hn => by
  obtain ⟨g, cap, hv, hbg, _⟩ := h.1.form hn
  have hA : A = some ⟨g, 0, none⟩ := by injection hv
  exact ⟨g, 0, hA, by omega⟩
/-- a message that lies elsewhere stays where a block changes -/
theorem Mg.ok.other {w w' : World} {B lo g : Nat} {m : Mg} (h : m.ok w B) (hf : MFrom lo m) (hg : g < lo) (hk : ∀ p : Addr, p.block ≠ g → w'.cell? p = w.cell? p) : m.ok w' B :=
  ⟨h.kd, h.cd, h.wd, h.bm, ⟨h.bs.len, h.bs.all, fun hn => by
    obtain ⟨b, o, e, hb, hc⟩ := h.bs.mem hn
    obtain ⟨b', o', e', hl⟩ := hf hn
    rw [e] at e'
    injection e' with e'
    injection e' with e1 e2 _
    subst e1 e2
    exact ⟨b, o, e, hb, fun i hi => (hk _ (by show b ≠ g; omega)).trans (hc i hi)⟩⟩⟩
/-- a message and a value are handed back, the message's body in new memory -/
def GivesMF (w : World) (r : Mb) (x : Value) (e : Ending) (w' : World) : Prop :=
  ∃ m : Mg, e = .returned (.tuple #[msgV m, x]) ∧ m.v = r ∧ m.ok w' w'.heap.size ∧ Below w.heap.size w w' ∧ MFrom w.heap.size m
theorem GivesMF.of {w w' : World} {r : Mb} {x y : Value} {m : Mg} (hr : m.v = r) (hx : x = y) (hk : m.ok w' w'.heap.size) (hB : Below w.heap.size w w') (hf : MFrom w.heap.size m) : GivesMF w r x (.returned (.tuple #[msgV m, y])) w' := by
  subst hx
  exact ⟨m, rfl, hr, hk, hB, hf⟩
theorem ret_msg {fn : Func} {p q : Tmp} {R : Ending → World → Prop} {tmps : Array Value} {df : List Deferred} {w : World} {g : Nat} {m : Mg} {x : Value} (hfn : fn.results = #[.cell p 36, .tmp q]) (hp : tmps.getD p undef = .pointer (some ⟨g, 0, none⟩)) (hq : tmps.getD q undef = x)
    (hb : BlkM w g m) (hR : R (.returned (.tuple #[msgV m, x])) w) (hd : df = []) : bodyPost Tryz.prog fn R .ret ⟨tmps, df⟩ w :=
  bodyPost_ret (results_cell_tmp hfn tmps w g _ _ _ _ _ hp hq hb Tryz.underlying36 rfl (by rw [msg_size]; rfl)) hd hR

/-- what lies in a block of its own stays where another block changes -/
theorem Blk.other {w w' : World} {t : TypeId} {g g' : Nat} {ys : List Int} (h : Blk w t g ys) (ha : AllB ys) (hg : g ≠ g') (hk : ∀ p : Addr, p.block ≠ g' → w'.cell? p = w.cell? p) {B n : Nat} (hB : g < B) (hn : ys.length = n) : Bs w' B (some ⟨g, 0, none⟩) n ys :=
  ⟨hn, ha, fun _ => ⟨g, 0, rfl, hB, fun i hi => by rw [hk _ hg, Nat.zero_add, h.cell i, cellsB_get (by omega)]⟩⟩
theorem OwnB.other {w w' : World} {t : TypeId} {base n c g' : Nat} {A : Option Addr} {ys : List Int} (h : OwnB t w base A n c ys) (hg : g' < base) (hk : ∀ p : Addr, p.block ≠ g' → w'.cell? p = w.cell? p) {B : Nat} (hB : w.heap.size ≤ B) : Bs w' B A n ys := by
  have hb := h.bs (Nat.le_refl _)
  refine ⟨hb.len, hb.all, fun hn => ?_⟩
  obtain ⟨b, o, e, hlt, hc⟩ := hb.mem hn
  obtain ⟨g, cap, hv, hbg, _⟩ := h.1.form hn
  have hA : A = some ⟨g, 0, none⟩ := by injection hv
  rw [hA] at e
  injection e with e
  injection e with e1 e2 _
  subst e1 e2
  exact ⟨_, _, hA, by omega, fun i hi => (hk _ (by show g ≠ g'; omega)).trans (hc i hi)⟩

/-- does a number lie between two others? -/
def inB (lo hi n : Int) : Bool := decide (lo ≤ n ∧ n ≤ hi)
end Go.Proofs.YtjafjapnmffohaaGreatDoor

namespace Go.Proofs.YtjafjapnmffohaaGreatDoor
open Go.RowKit
set_option linter.unusedVariables false

/-- can a message be? its bytes with a sum of 0; its bytes -/
def okM (x : Mb) : Bool := inB 0 255 x.kd && inB 0 255 x.cd
def flatM (x : Mb) : List Int := [x.kd, x.cd, 0, 0] ++ four x.wd ++ x.bs
def sumM (s d : List Int) (x : Mb) : Int := nt (chk s d 58 (flatM x))
def putM (s d : List Int) (x : Mb) : List Int := if okM x = true then ((flatM x).set 2 (sumM s d x / 256 % 256)).set 3 (sumM s d x % 256) else []
theorem okM_yes {x : Mb} (h : okM x = true) : (0 ≤ x.kd ∧ x.kd ≤ 255) ∧ (0 ≤ x.cd ∧ x.cd ≤ 255) := by
  unfold okM inB at h
  simpa using h
theorem flatM_len (x : Mb) : (flatM x).length = x.bs.length + 8 := by simp [flatM, four]
theorem flatM_all {x : Mb} (h : okM x = true) (hw : 0 ≤ x.wd ∧ x.wd < 4294967296) (hb : AllB x.bs) : AllB (flatM x) := by
  obtain ⟨h1, h2⟩ := okM_yes h
  exact ((AllB.cons h1.1 (by omega) (.cons h2.1 (by omega) (.cons (by omega) (by omega) (.cons (by omega) (by omega) .nil)))).append (four_all _ hw)).append hb
theorem sumM_range (s d : List Int) (x : Mb) : 0 ≤ sumM s d x ∧ sumM s d x ≤ 65535 := nt_range _

/-- a slice of bytes is handed back, and what its room is -/
def GivesY (w : World) (ys : List Int) (e : Ending) (w' : World) : Prop :=
  ∃ A c, e = .returned (.slice A ys.length c) ∧ Bs w' w'.heap.size A ys.length ys ∧ (ys.length ≤ c ∧ c ≤ 9223372036854775807) ∧ Below w.heap.size w w'
theorem GivesY.of {w w' : World} {ys zs : List Int} {A : Option Addr} {n c : Nat} (hy : ys = zs) (hb : Bs w' w'.heap.size A n zs) (h1 : n ≤ c) (h2 : c ≤ 9223372036854775807) (hB : Below w.heap.size w w') :
    GivesY w ys (.returned (.slice A n c)) w' := by
  subst hy
  obtain rfl := hb.len
  exact ⟨A, c, rfl, hb, ⟨h1, h2⟩, hB⟩
theorem run_bool_not (b : Bool) : (!b) = (if b then false else true) := by cases b <;> rfl

end Go.Proofs.YtjafjapnmffohaaGreatDoor

namespace Go.Proofs.YtjafjapnmffohaaGreatDoor
open Go.RowKit
set_option linter.unusedVariables false

/-- where a row of the call's own lies: its cells may be stored into -/
theorem OwnB.spot {t : TypeId} {w : World} {base n c : Nat} {A : Option Addr} {ys : List Int} (h : OwnB t w base A n c ys) (hn : 0 < n) :
    ∃ g, A = some ⟨g, 0, none⟩ ∧ base ≤ g ∧ g < w.heap.size ∧ (∀ i, i < n → w.cell? ⟨g, i, none⟩ = some (.int .u8 (ys.getD i 0))) ∧ (∀ i, w.frozen? ⟨g, i, none⟩ = false) ∧
      (∀ k x, k < n → 0 ≤ x → x < 256 → OwnB t (w.setCell ⟨g, k, none⟩ (.int .u8 x)) base (some ⟨g, 0, none⟩) n c (ys.set k x)) := by
  have hl := h.len
  have hb := h.bs (Nat.le_refl _)
  obtain ⟨⟨h1, h2⟩, ha⟩ := h
  rcases h2 with ⟨e, h0⟩ | ⟨g, cap, cur, hv, hbg, hg, hnc, hcm, hsz, htk⟩
  · omega
  · injection hv with hA hn' hc'
    subst hA hc'
    have hlt : g < w.heap.size := (Array.getElem?_eq_some_iff.1 hg).1
    refine ⟨g, rfl, hbg, hlt, fun i hi => ?_, fun i => by simp [World.frozen?, hg], fun k x hk h0 h1 => ⟨⟨by simp [cellsB_length, hl], .inr ⟨g, c, cur.setIfInBounds k (.int .u8 x), rfl, hbg, ?_, hnc, hcm, by simpa using hsz, ?_⟩⟩, ha.set k h0 h1⟩⟩
    · obtain ⟨b, o, e, _, hc⟩ := hb.mem hn
      injection e with e
      injection e with e1 e2 _
      subst e1 e2
      simpa using hc i hi
    · simp [World.setCell, Array.getElem?_modify, hg]
    · have e : cellsB (ys.set k x) = (cellsB ys).set k (.int .u8 x) := by simp [cellsB, List.map_set]
      rw [e, ← htk]
      simp [List.take_set]

end Go.Proofs.YtjafjapnmffohaaGreatDoor

namespace Go.Proofs.YtjafjapnmffohaaGreatDoor
open Go.RowKit
set_option linter.unusedVariables false

/-- the message of bytes, and why there is none -/
def getM (xs : List Int) : Mb := ⟨xs.getD 0 0, xs.getD 1 0, num4 xs 4, xs.drop 8⟩
def parseE (s d xs : List Int) : Int := if xs.length < 8 then 3 else if fineB s d 58 xs = true then 0 else 6
def parseM (s d xs : List Int) : Mb := if parseE s d xs = 0 then getM xs else zeroMb
theorem parseM_cases (s d xs : List Int) : (xs.length < 8 ∧ parseE s d xs = 3 ∧ parseM s d xs = zeroMb) ∨ (8 ≤ xs.length ∧ fineB s d 58 xs = false ∧ parseE s d xs = 6 ∧ parseM s d xs = zeroMb) ∨
    (8 ≤ xs.length ∧ fineB s d 58 xs = true ∧ parseE s d xs = 0 ∧ parseM s d xs = getM xs) := by
  by_cases h1 : xs.length < 8
  · have e : parseE s d xs = 3 := by unfold parseE; rw [if_pos h1]
    exact .inl ⟨h1, e, by unfold parseM; rw [e]; rfl⟩
  · cases h2 : fineB s d 58 xs
    · have e : parseE s d xs = 6 := by unfold parseE; rw [if_neg h1, h2]; rfl
      exact .inr (.inl ⟨by omega, rfl, e, by unfold parseM; rw [e]; rfl⟩)
    · have e : parseE s d xs = 0 := by unfold parseE; rw [if_neg h1, h2]; rfl
      exact .inr (.inr ⟨by omega, rfl, e, by unfold parseM; rw [e]; rfl⟩)
theorem icnum4 {xs : List Int} (h : AllB xs) (p : Nat) : 0 ≤ num4 xs p ∧ num4 xs p < 4294967296 := by
  have h1 := h.getD p
  have h2 := h.getD (p + 1)
  have h3 := h.getD (p + 2)
  have h4 := h.getD (p + 3)
  unfold num4
  omega

section
variable (s d : List Int) (A : Option Addr) (n c : Nat) (xs : List Int) (w : World) (hs : s.length = 16) (hd : d.length = 16) (vs : AllB s) (vd : AllB d) (hn : n ≤ 140737488351232) (hc : n ≤ c) (hc2 : c ≤ 9223372036854775807) (hb : Bs w w.heap.size A n xs)
include hs hd vs vd hn hc hc2 hb

set_option maxRecDepth 100000 in
set_option maxHeartbeats 1600000 in
theorem icparse_any : Calls Tryz.prog 137 #[addrV s, addrV d, .slice A n c] w (GivesMF w (parseM s d xs) (.int .i64 (parseE s d xs))) := by
  unfold addrV
  have HBX := Lib.hid hb
  have hl := hb.len
  have HS := Lib.hid hs
  have HD := Lib.hid hd
  have VS := Lib.hid vs
  have VD := Lib.hid vd
  have HB0 := Lib.hid (box_first w s d 24 24)
  have HB1 := Lib.hid (box_second w s d 24 24)
  have hL := low2 w s d 24 24
  have hz2 : ((w.alloc (.cells (cellsB s).toArray 24)).alloc (.cells (cellsB d).toArray 24)).heap.size = w.heap.size + 2 := by simp
  clear hs hd vs vd hb
  have hcs := parseM_cases s d xs
  rw [hl] at hcs
  clear hl
  rcases hcs with ⟨h1, e1, e2⟩ | ⟨h1, h2, e1, e2⟩ | ⟨h1, h2, e1, e2⟩
  · have HE := Lib.hid (And.intro e1 e2)
    have d1 : (n : Int) < 8 := by omega
    clear e1 e2
    go_enter Tryz.func137, Tryz.ntmps137
    go_wp2_with ((with_reducible refine wpList_alloc_msg rfl rfl ?_); intro w3 HZ hl3 hz3; refine Hid.out ?_)
    refine Lib.hid ?_
    replace hL := hL.trans hl3
    rw [hz2] at HZ
    clear hl3 hz2 hz3
    go_wp2_with ((refine wpList_store_msg rfl (.tmp 6) (.tmp 15) rfl (w.heap.size + 2) rfl zeroM rfl zeroM HZ ?_); intro w4 HG hb4 ho4 hz4)
    exact ret_msg Tryz.results137 rfl rfl HG (GivesMF.of (by rw [HE.out.2]; rfl) (by rw [HE.out.1]; rfl) (zeroM_ok _ _) (Below.trans hL (hb4.mono (by omega))) (zeroM_from _)) rfl
  · have HE := Lib.hid (And.intro e1 e2)
    have d1 : ¬ (n : Int) < 8 := by omega
    clear e1 e2
    go_enter Tryz.func137, Tryz.ntmps137
    go_wp2_with ((with_reducible refine wpList_alloc_msg rfl rfl ?_); intro w3 HZ hl3 hz3; refine Hid.out ?_)
    refine Lib.hid ?_
    replace hL := hL.trans hl3
    rw [hz2] at HZ
    replace HZ := Lib.hid HZ
    replace HB0 := Lib.hid (HB0.out.below hl3 HB0.out.lt)
    replace HB1 := Lib.hid (HB1.out.below hl3 HB1.out.lt)
    clear hl3 hz2 hz3
    go_wp2_with (first
      | (with_reducible refine wpList_load_addr rfl (.tmp 3) rfl w.heap.size rfl _ s HB0.out HS.out ?_)
      | (with_reducible refine wpList_load_addr rfl (.tmp 4) rfl (w.heap.size + 1) rfl _ d HB1.out HD.out ?_))
    refine (fine_any s d 58 A n c xs w3 HS.out HD.out VS.out VD.out (by unfold i64ok; omega) (by omega) (HBX.out.below' hL hL.size)).mono ?_
    rintro e w4 ⟨rfl, hl4⟩
    rw [h2]
    replace HZ := Lib.hid (HZ.out.below hl4 HZ.out.lt)
    replace hL := Low.trans hL hl4
    clear hl4 HB0 HB1
    go_wp2_with ((refine wpList_store_msg rfl (.tmp 6) (.tmp 21) rfl (w.heap.size + 2) rfl zeroM rfl zeroM HZ.out ?_); intro w5 HG hb5 ho5 hz5)
    exact ret_msg Tryz.results137 rfl rfl HG (GivesMF.of (by rw [HE.out.2]; rfl) (by rw [HE.out.1]; rfl) (zeroM_ok _ _) (Below.trans hL (hb5.mono (by omega))) (zeroM_from _)) rfl
  · have HE := Lib.hid (And.intro e1 e2)
    have d1 : ¬ (n : Int) < 8 := by omega
    clear e1 e2
    go_enter Tryz.func137, Tryz.ntmps137
    go_wp2_with ((with_reducible refine wpList_alloc_msg rfl rfl ?_); intro w3 HZ hl3 hz3; refine Hid.out ?_)
    refine Lib.hid ?_
    replace hL := hL.trans hl3
    rw [hz2] at HZ
    replace HZ := Lib.hid HZ
    replace HB0 := Lib.hid (HB0.out.below hl3 HB0.out.lt)
    replace HB1 := Lib.hid (HB1.out.below hl3 HB1.out.lt)
    clear hl3 hz2 hz3
    go_wp2_with (first
      | (with_reducible refine wpList_load_addr rfl (.tmp 3) rfl w.heap.size rfl _ s HB0.out HS.out ?_)
      | (with_reducible refine wpList_load_addr rfl (.tmp 4) rfl (w.heap.size + 1) rfl _ d HB1.out HD.out ?_))
    refine (fine_any s d 58 A n c xs w3 HS.out HD.out VS.out VD.out (by unfold i64ok; omega) (by omega) (HBX.out.below' hL hL.size)).mono ?_
    rintro e w4 ⟨rfl, hl4⟩
    rw [h2]
    replace HZ := Lib.hid (HZ.out.below hl4 HZ.out.lt)
    replace hL := Low.trans hL hl4
    clear hl4 HB0 HB1
    have hb4 := HBX.out.below' hL hL.size
    go_wp2_with fail
    refine (u32_yes A n c 4 4 xs w4 (by omega) hb4 rfl (by omega)).mono ?_
    rintro e w5 ⟨rfl, k5, rfl⟩
    replace HZ : Hid (BlkM (w4.drewN k5) (w.heap.size + 2) zeroM) := HZ
    replace hL := below_drewN hL k5
    replace hb4 : Bs (w4.drewN k5) (w4.drewN k5).heap.size A n xs := hb4.drewN k5
    generalize w4.drewN k5 = w5 at *
    go_wp2_with fail
    refine (cut_yes A n c 8 ((n : Int) - 8) 8 (n - 8) xs w5 (by omega) hc hc2 hb4 rfl (by omega) (by omega)).mono ?_
    rintro e w6 ⟨v, rfl, g, rfl, hg, hk, hl6, ha6, hl⟩
    rw [List.take_of_length_le (by rw [List.length_drop, HBX.out.len]; omega)] at hk hl6 ha6
    have hgz : w.heap.size + 2 < g := Nat.lt_of_lt_of_le HZ.out.lt hg
    replace HZ := Lib.hid (HZ.out.below hl HZ.out.lt)
    replace hL := Low.trans hL hl
    have HBY := Lib.hid (And.intro hk (And.intro hl6 ha6))
    clear hk hl6 ha6 hl hb4 hg
    obtain ⟨b, o, rfl, hbl, hcell⟩ := HBX.out.mem (by omega)
    have c0 := hcell 0 (by omega)
    have c1 := hcell 1 (by omega)
    rw [Nat.add_zero] at c0
    have r0 := HBX.out.nonneg 0
    have r1 := HBX.out.nonneg 1
    have k0 : IntKind.i64.wrap (xs.getD 0 0) = xs.getD 0 0 := wraps_i64 _ r0.1 (by omega)
    have k1 : IntKind.i64.wrap (xs.getD 1 0) = xs.getD 1 0 := wraps_i64 _ r1.1 (by omega)
    have n0 : (0 : Int) < n := by omega
    have n0' : 0 < n := by omega
    have n1 : (1 : Int) < n := by omega
    have HG := Lib.hid (show getM xs = ⟨xs.getD 0 0, xs.getD 1 0, num4 xs 4, xs.drop 8⟩ from rfl)
    have H4 := Lib.hid (icnum4 HBX.out.all 4)
    have hmm : n - 8 ≤ 140737488351232 := by omega
    clear hcell
    generalize xs.getD 0 0 = x0 at *
    generalize xs.getD 1 0 = x1 at *
    generalize num4 xs 4 = x4 at *
    generalize xs.drop 8 = ys at *
    go_wp2_with fail
    refine wp_region_planS (fun y => Below w.heap.size w y) (.rd 0 (.rd 1 (.rd 2 (.rd 3 (.rd 4 (.rd 5 (.rd 6 (.rd 7 (.rd 8 (.rd 9 (.rd 10 (.act 11 (.rd 12 (.done)))))))))))))) (by kernel_rfl) (by kernel_rfl) (fun _ _ d _ _ h => by cases d <;> exact h) (by kernel_rfl) (Below.drew hL) ?_
    replace HZ : Hid (BlkM w6.drew (w.heap.size + 2) zeroM) := HZ
    replace HBY : Hid (Blk w6.drew 5 g ys ∧ ys.length = n - 8 ∧ AllB ys) := HBY
    replace hL := Below.drew hL
    generalize w6.drew = w7 at *
    iterate 11 (refine walkS_read (v := _) rfl (by rfl) (by
      intro y hy
      have e0 := (hy.cell (p := ⟨b, o, none⟩) hbl).trans c0; have e1 := (hy.cell (p := ⟨b, o + 1, none⟩) hbl).trans c1
      go_simp; try rfl) ?_; simp only [Act.put, List.setIfInBounds_toArray, List.set_cons_zero, List.set_cons_succ])
    refine walkS_act rfl (by rfl) (fun K hK => ?_)
    refine wp_store_row 36 (.tmp 6) (.tmp 45) rfl (w.heap.size + 2) (msgC ⟨x0, x1, x4, some ⟨g, 0, none⟩, n - 8, n - 8, ys⟩).toArray rfl rfl 36 _ HZ.out (by rw [msg_size]; rfl) rfl (msgC_one _) ?_
    have hBE := hL.trans (low_setRow w7 (w.heap.size + 2) (msgC ⟨x0, x1, x4, some ⟨g, 0, none⟩, n - 8, n - 8, ys⟩).toArray (Nat.le_add_right _ _))
    refine hK _ _ hBE ?_
    clear hK K
    have HE2 := BlkV.setRow HZ.out (msgC ⟨x0, x1, x4, some ⟨g, 0, none⟩, n - 8, n - 8, ys⟩)
    have hok : Mg.ok (w7.setRow (w.heap.size + 2) (msgC ⟨x0, x1, x4, some ⟨g, 0, none⟩, n - 8, n - 8, ys⟩).toArray) (w7.setRow (w.heap.size + 2) (msgC ⟨x0, x1, x4, some ⟨g, 0, none⟩, n - 8, n - 8, ys⟩).toArray).heap.size ⟨x0, x1, x4, some ⟨g, 0, none⟩, n - 8, n - 8, ys⟩ :=
      ⟨by unfold i64ok; dsimp only; omega, by unfold i64ok; dsimp only; omega, H4.out, hmm, HBY.out.1.other HBY.out.2.2 (g' := w.heap.size + 2) (by omega) (fun p hp => World.cell?_of_block (by simp [World.setRow, Array.getElem?_modify, Ne.symm hp])) (by simpa using HBY.out.1.lt) HBY.out.2.1⟩
    clear HZ HBY
    generalize w7.setRow (w.heap.size + 2) (msgC ⟨x0, x1, x4, some ⟨g, 0, none⟩, n - 8, n - 8, ys⟩).toArray = wE at *
    simp only [Act.put]
    iterate 1 (refine walkS_read (v := _) rfl (by rfl) (by intro y hy; go_simp; try rfl) ?_; simp only [Act.put, List.setIfInBounds_toArray, List.set_cons_zero, List.set_cons_succ])
    unfold walkS
    go_wp2
    exact ret_msg Tryz.results137 rfl rfl HE2 (GivesMF.of (by rw [HE.out.2, HG.out]; rfl) (by rw [HE.out.1]; rfl) hok hBE (MFrom.at_ (by omega))) rfl
end
end Go.Proofs.YtjafjapnmffohaaGreatDoor

namespace Go.Proofs.YtjafjapnmffohaaGreatDoor
open Go.RowKit
set_option linter.unusedVariables false

section
variable (s d : List Int) (A : Option Addr) (n c : Nat) (xs : List Int) (w : World) (hs : s.length = 16) (hd : d.length = 16) (vs : AllB s) (vd : AllB d) (hn : n ≤ 140737488351232) (hc : n ≤ c) (hb : Bs w w.heap.size A n xs)
include hs hd vs vd hn hc hb

set_option maxRecDepth 100000 in
set_option maxHeartbeats 1600000 in
theorem ricparse_any : Calls Tryz.prog 20 #[addrV s, addrV d, .slice A n c] w (GivesMF w (parseM s d xs) (.int .i64 (parseE s d xs))) := by
  unfold addrV
  have HBX := Lib.hid hb
  have hl := hb.len
  have HS := Lib.hid hs
  have HD := Lib.hid hd
  have VS := Lib.hid vs
  have VD := Lib.hid vd
  have HB0 := Lib.hid (box_first w s d 24 24)
  have HB1 := Lib.hid (box_second w s d 24 24)
  have hL := low2 w s d 24 24
  have hz2 : ((w.alloc (.cells (cellsB s).toArray 24)).alloc (.cells (cellsB d).toArray 24)).heap.size = w.heap.size + 2 := by simp
  clear hs hd vs vd hb
  have hcs := parseM_cases s d xs
  rw [hl] at hcs
  clear hl
  rcases hcs with ⟨h1, e1, e2⟩ | ⟨h1, h2, e1, e2⟩ | ⟨h1, h2, e1, e2⟩
  · have HE := Lib.hid (And.intro e1 e2)
    have d1 : (n : Int) < 8 := by omega
    clear e1 e2
    go_enter Tryz.func20, Tryz.ntmps20
    go_wp2_with ((with_reducible refine wpList_alloc_msg rfl rfl ?_); intro w3 HZ hl3 hz3; refine Hid.out ?_)
    refine Lib.hid ?_
    replace hL := hL.trans hl3
    rw [hz2] at HZ
    clear hl3 hz2 hz3
    go_wp2_with ((refine wpList_store_msg rfl (.tmp 6) (.tmp 13) rfl (w.heap.size + 2) rfl zeroM rfl zeroM HZ ?_); intro w4 HG hb4 ho4 hz4)
    exact ret_msg Tryz.results20 rfl rfl HG (GivesMF.of (by rw [HE.out.2]; rfl) (by rw [HE.out.1]; rfl) (zeroM_ok _ _) (Below.trans hL (hb4.mono (by omega))) (zeroM_from _)) rfl
  · have HE := Lib.hid (And.intro e1 e2)
    have d1 : ¬ (n : Int) < 8 := by omega
    clear e1 e2
    go_enter Tryz.func20, Tryz.ntmps20
    go_wp2_with ((with_reducible refine wpList_alloc_msg rfl rfl ?_); intro w3 HZ hl3 hz3; refine Hid.out ?_)
    refine Lib.hid ?_
    replace hL := hL.trans hl3
    rw [hz2] at HZ
    replace HZ := Lib.hid HZ
    replace HB0 := Lib.hid (HB0.out.below hl3 HB0.out.lt)
    replace HB1 := Lib.hid (HB1.out.below hl3 HB1.out.lt)
    clear hl3 hz2 hz3
    go_wp2_with (first
      | (with_reducible refine wpList_load_addr rfl (.tmp 3) rfl w.heap.size rfl _ s HB0.out HS.out ?_)
      | (with_reducible refine wpList_load_addr rfl (.tmp 4) rfl (w.heap.size + 1) rfl _ d HB1.out HD.out ?_))
    refine (rfine_any s d 58 A n c xs w3 HS.out HD.out VS.out VD.out (by unfold i64ok; omega) hn (HBX.out.below' hL hL.size)).mono ?_
    rintro e w4 ⟨rfl, hl4⟩
    rw [h2]
    replace HZ := Lib.hid (HZ.out.below hl4 HZ.out.lt)
    replace hL := Low.trans hL hl4
    clear hl4 HB0 HB1
    go_wp2_with ((refine wpList_store_msg rfl (.tmp 6) (.tmp 19) rfl (w.heap.size + 2) rfl zeroM rfl zeroM HZ.out ?_); intro w5 HG hb5 ho5 hz5)
    exact ret_msg Tryz.results20 rfl rfl HG (GivesMF.of (by rw [HE.out.2]; rfl) (by rw [HE.out.1]; rfl) (zeroM_ok _ _) (Below.trans hL (hb5.mono (by omega))) (zeroM_from _)) rfl
  · have HE := Lib.hid (And.intro e1 e2)
    have d1 : ¬ (n : Int) < 8 := by omega
    clear e1 e2
    go_enter Tryz.func20, Tryz.ntmps20
    go_wp2_with ((with_reducible refine wpList_alloc_msg rfl rfl ?_); intro w3 HZ hl3 hz3; refine Hid.out ?_)
    refine Lib.hid ?_
    replace hL := hL.trans hl3
    rw [hz2] at HZ
    replace HZ := Lib.hid HZ
    replace HB0 := Lib.hid (HB0.out.below hl3 HB0.out.lt)
    replace HB1 := Lib.hid (HB1.out.below hl3 HB1.out.lt)
    clear hl3 hz2 hz3
    go_wp2_with (first
      | (with_reducible refine wpList_load_addr rfl (.tmp 3) rfl w.heap.size rfl _ s HB0.out HS.out ?_)
      | (with_reducible refine wpList_load_addr rfl (.tmp 4) rfl (w.heap.size + 1) rfl _ d HB1.out HD.out ?_))
    refine (rfine_any s d 58 A n c xs w3 HS.out HD.out VS.out VD.out (by unfold i64ok; omega) hn (HBX.out.below' hL hL.size)).mono ?_
    rintro e w4 ⟨rfl, hl4⟩
    rw [h2]
    replace HZ := Lib.hid (HZ.out.below hl4 HZ.out.lt)
    replace hL := Low.trans hL hl4
    clear hl4 HB0 HB1
    have hb4 := HBX.out.below' hL hL.size
    go_wp2_with fail
    refine (r32_yes A n c 4 4 xs w4 (by omega) hb4 rfl (by omega)).mono ?_
    rintro e w5 ⟨rfl, k5, rfl⟩
    replace HZ : Hid (BlkM (w4.drewN k5) (w.heap.size + 2) zeroM) := HZ
    replace hL := below_drewN hL k5
    replace hb4 : Bs (w4.drewN k5) (w4.drewN k5).heap.size A n xs := hb4.drewN k5
    generalize w4.drewN k5 = w5 at *
    obtain ⟨i0, hi, hz0, hz1, hz2⟩ := info_parts info5
    have hsz := HZ.out.lt
    obtain ⟨b, o, rfl, hbl, hcell⟩ := HBX.out.mem (by omega)
    obtain ⟨A8, hcut, hA8⟩ := slc_from b o n c 8 8 hc rfl (by omega)
    have HCUT := Lib.hid (And.intro hcut hA8)
    clear hcut hA8
    have c0 := hcell 0 (by omega)
    have c1 := hcell 1 (by omega)
    rw [Nat.add_zero] at c0
    have r0 := HBX.out.nonneg 0
    have r1 := HBX.out.nonneg 1
    have k0 : IntKind.i64.wrap (xs.getD 0 0) = xs.getD 0 0 := wraps_i64 _ r0.1 (by omega)
    have k1 : IntKind.i64.wrap (xs.getD 1 0) = xs.getD 1 0 := wraps_i64 _ r1.1 (by omega)
    have n0 : (0 : Int) < n := by omega
    have n0' : 0 < n := by omega
    have n1 : (1 : Int) < n := by omega
    have HG := Lib.hid (show getM xs = ⟨xs.getD 0 0, xs.getD 1 0, num4 xs 4, xs.drop 8⟩ from rfl)
    have H4 := Lib.hid (icnum4 HBX.out.all 4)
    have hmm : n - 8 ≤ 140737488351232 := by omega
    clear hcell
    generalize xs.getD 0 0 = x0 at *
    generalize xs.getD 1 0 = x1 at *
    generalize num4 xs 4 = x4 at *
    go_wp2_with fail
    refine wp_region_planS (fun y => Below w.heap.size w y) (.rd 0 (.rd 1 (.rd 2 (.rd 3 (.rd 4 (.rd 5 (.rd 6 (.rd 7 (.rd 8 (.rd 10 (.rd 11 (.act 9 (.act 12 (.rd 13 (.act 14 (.rd 15 (.done))))))))))))))))) (by kernel_rfl) (by kernel_rfl) (fun _ _ d _ _ h => by cases d <;> exact h) (by kernel_rfl) (Below.drew hL) ?_
    replace HZ : Hid (BlkM w5.drew (w.heap.size + 2) zeroM) := HZ
    replace hL := Below.drew hL
    replace hsz : w.heap.size + 2 < w5.drew.heap.size := hsz
    generalize w5.drew = w7 at *
    iterate 10 (refine walkS_read (v := _) rfl (by rfl) (by
      intro y hy
      have e0 := (hy.cell (p := ⟨b, o, none⟩) hbl).trans c0; have e1 := (hy.cell (p := ⟨b, o + 1, none⟩) hbl).trans c1
      go_simp; try rfl) ?_; simp only [Act.put, List.setIfInBounds_toArray, List.set_cons_zero, List.set_cons_succ])
    refine walkS_read (v := .slice A8 (n - 8) (c - 8)) rfl (by rfl) (by intro y hy; exact slc_exec (HCUT.out.1 y)) ?_
    simp only [Act.put, List.setIfInBounds_toArray, List.set_cons_zero, List.set_cons_succ]
    refine walkS_act rfl (by rfl) (fun K hK => ?_)
    go_simp
    have hla := Low.alloc w7 (.cells #[] 5)
    have hOwn := OwnB.fresh (base := w7.heap.size) w7 5 (Nat.le_refl _)
    refine hK _ _ (Low.trans hL hla) ?_
    clear hK K
    have hLU : Below w7.heap.size w7 (w7.alloc (.cells #[] 5)) := hla
    obtain ⟨gE, hgE⟩ : ∃ g, g = w7.heap.size := ⟨_, rfl⟩
    rw [show (⟨w7.heap.size, 0, none⟩ : Addr) = ⟨gE, 0, none⟩ by rw [hgE]] at hOwn ⊢
    clear hla hgE
    generalize w7.alloc (.cells #[] 5) = w8 at *
    have hsrc := (HBX.out.below' (Low.trans hL hLU) (Low.trans hL hLU).size).cutFrom (s := 8) (by omega) HCUT.out.2
    refine walkS_act rfl (by rfl) (fun K hK => ?_)
    refine wp_append_bs (.tmp 34) (.tmp 36) _ rfl w7.heap.size 5 i0 Tryz.underlying22 hi hz0 hz1 hz2 _ 0 0 [] rfl hOwn A8 (n - 8) (c - 8) _ _ rfl hsrc (by omega) hLU.size ?_
    intro A9 c9 w9 hO9 hg9 hx9
    have hL9 : Below w7.heap.size w7 w9 := hLU.grown hg9 hLU.size (fun k hk => (hOwn.lt k hk).1)
    refine hK _ _ (Below.trans hL (hL9.mono hL.size)) ?_
    clear hK K hsrc hg9 hx9 hOwn hLU
    replace HZ := Lib.hid (HZ.out.below hL9 HZ.out.lt)
    replace hL := Below.trans hL (hL9.mono hL.size)
    clear hL9
    rw [Nat.zero_add, List.nil_append] at hO9
    simp only [Act.put, List.setIfInBounds_toArray, List.set_cons_zero, List.set_cons_succ, Nat.zero_add]
    generalize xs.drop 8 = ys at *
    iterate 1 (refine walkS_read (v := _) rfl (by rfl) (by intro y hy; go_simp; try rfl) ?_; simp only [Act.put, List.setIfInBounds_toArray, List.set_cons_zero, List.set_cons_succ])
    refine walkS_act rfl (by rfl) (fun K hK => ?_)
    refine wp_store_row 36 (.tmp 6) (.tmp 38) rfl (w.heap.size + 2) (msgC ⟨x0, x1, x4, A9, n - 8, c9, ys⟩).toArray rfl rfl 36 _ HZ.out (by rw [msg_size]; rfl) rfl (msgC_one _) ?_
    have hBE := hL.trans (low_setRow w9 (w.heap.size + 2) (msgC ⟨x0, x1, x4, A9, n - 8, c9, ys⟩).toArray (Nat.le_add_right _ _))
    refine hK _ _ hBE ?_
    clear hK K
    have HE2 := BlkV.setRow HZ.out (msgC ⟨x0, x1, x4, A9, n - 8, c9, ys⟩)
    have hok : Mg.ok (w9.setRow (w.heap.size + 2) (msgC ⟨x0, x1, x4, A9, n - 8, c9, ys⟩).toArray) (w9.setRow (w.heap.size + 2) (msgC ⟨x0, x1, x4, A9, n - 8, c9, ys⟩).toArray).heap.size ⟨x0, x1, x4, A9, n - 8, c9, ys⟩ :=
      ⟨by unfold i64ok; dsimp only; omega, by unfold i64ok; dsimp only; omega, H4.out, hmm, hO9.other (g' := w.heap.size + 2) hsz (fun p hp => World.cell?_of_block (by simp [World.setRow, Array.getElem?_modify, Ne.symm hp])) (by simp)⟩
    have hfr := MFrom.own (kd := x0) (cd := x1) (wd := x4) (k := c9) (bs := ys) hO9 (show w.heap.size ≤ w7.heap.size by omega)
    clear HZ hO9
    generalize w9.setRow (w.heap.size + 2) (msgC ⟨x0, x1, x4, A9, n - 8, c9, ys⟩).toArray = wE at *
    simp only [Act.put]
    iterate 1 (refine walkS_read (v := _) rfl (by rfl) (by intro y hy; go_simp; try rfl) ?_; simp only [Act.put, List.setIfInBounds_toArray, List.set_cons_zero, List.set_cons_succ])
    unfold walkS
    go_wp2
    exact ret_msg Tryz.results20 rfl rfl HE2 (GivesMF.of (by rw [HE.out.2, HG.out]; rfl) (by rw [HE.out.1]; rfl) hok hBE hfr) rfl
end
end Go.Proofs.YtjafjapnmffohaaGreatDoor

namespace Go.Proofs.YtjafjapnmffohaaGreatDoor
open Go.RowKit
set_option linter.unusedVariables false

/-- the answer to an echo, and whether there is one -/
def replyB (x : Mb) : Bool := decide (x.kd = 128 ∧ x.cd = 0)
def replyM (x : Mb) : Mb := if replyB x = true then ⟨129, 0, x.wd, x.bs⟩ else zeroMb
theorem replyM_cases (x : Mb) : (¬ x.kd = 128 ∧ replyB x = false ∧ replyM x = zeroMb) ∨ (x.kd = 128 ∧ ¬ x.cd = 0 ∧ replyB x = false ∧ replyM x = zeroMb) ∨ (x.kd = 128 ∧ x.cd = 0 ∧ replyB x = true ∧ replyM x = ⟨129, 0, x.wd, x.bs⟩) := by
  by_cases h1 : x.kd = 128
  · by_cases h2 : x.cd = 0
    · have e : replyB x = true := by unfold replyB; simp [h1, h2]
      exact .inr (.inr ⟨h1, h2, e, by unfold replyM; rw [if_pos e]⟩)
    · have e : replyB x = false := by unfold replyB; simp [h1, h2]
      exact .inr (.inl ⟨h1, h2, e, by unfold replyM; rw [e]; rfl⟩)
  · have e : replyB x = false := by unfold replyB; simp [h1]
    exact .inl ⟨h1, e, by unfold replyM; rw [e]; rfl⟩

end Go.Proofs.YtjafjapnmffohaaGreatDoor

namespace Go.Proofs.YtjafjapnmffohaaGreatDoor
open Go.RowKit
set_option linter.unusedVariables false

/-- is a packet about an error? the error about it, and whether there is one -/
def holdsB (xs : List Int) : Bool := decide (getE xs = 0 ∧ (getH xs).nx = 58 ∧ 40 < xs.length ∧ xs.getD 40 0 < 128)
def aboutB (k c : Int) (xs : List Int) : Bool := decide (1 ≤ k ∧ k ≤ 4) && inB 0 255 c && !holdsB xs
def aboutM (k c wd : Int) (xs : List Int) : Mb := if aboutB k c xs = true then ⟨k, c, wd, xs.take 1232⟩ else zeroMb
theorem getE_long {xs : List Int} (h : getE xs = 0) : 40 ≤ xs.length := by
  rcases getE_cases xs with ⟨_, e, _⟩ | ⟨h1, _⟩ | ⟨h1, _⟩
  · rw [h] at e; cases e
  · exact h1
  · exact h1
theorem holdsB_cases (xs : List Int) : (¬ getE xs = 0 ∧ holdsB xs = false) ∨ (getE xs = 0 ∧ ¬ (getH xs).nx = 58 ∧ holdsB xs = false) ∨ (getE xs = 0 ∧ (getH xs).nx = 58 ∧ xs.length = 40 ∧ holdsB xs = false) ∨
    (getE xs = 0 ∧ (getH xs).nx = 58 ∧ 40 < xs.length ∧ holdsB xs = decide (xs.getD 40 0 < 128)) := by
  by_cases h1 : getE xs = 0
  · have hl := getE_long h1
    by_cases h2 : (getH xs).nx = 58
    · by_cases h3 : xs.length = 40
      · exact .inr (.inr (.inl ⟨h1, h2, h3, by unfold holdsB; simp [h3]⟩))
      · exact .inr (.inr (.inr ⟨h1, h2, by omega, by unfold holdsB; simp [h1, h2, show 40 < xs.length by omega]⟩))
    · exact .inr (.inl ⟨h1, h2, by unfold holdsB; simp [h2]⟩)
  · exact .inl ⟨h1, by unfold holdsB; simp [h1]⟩

theorem aboutM_no {k q wd : Int} {xs : List Int} (h : aboutB k q xs = false) : aboutM k q wd xs = zeroMb := by unfold aboutM; rw [h]; rfl
theorem aboutM_yes {k q wd : Int} {xs : List Int} (h : aboutB k q xs = true) : aboutM k q wd xs = ⟨k, q, wd, xs.take 1232⟩ := by unfold aboutM; rw [if_pos h]

section
variable (A : Option Addr) (n c : Nat) (xs : List Int) (w : World) (hn : n ≤ 140737488351232) (hc : n ≤ c) (hc2 : c ≤ 9223372036854775807) (hb : Bs w w.heap.size A n xs)
include hn hc hc2 hb

end
end Go.Proofs.YtjafjapnmffohaaGreatDoor

namespace Go.Proofs.YtjafjapnmffohaaGreatDoor
open Go.RowKit
set_option linter.unusedVariables false

theorem aboutB_no {k q : Int} {xs : List Int} (h : aboutB k q xs = false) : k < 1 ∨ (¬ k < 1 ∧ 4 < k) ∨ (¬ k < 1 ∧ ¬ 4 < k ∧ q < 0) ∨ (¬ k < 1 ∧ ¬ 4 < k ∧ ¬ q < 0 ∧ 255 < q) ∨
    (¬ k < 1 ∧ ¬ 4 < k ∧ ¬ q < 0 ∧ ¬ 255 < q ∧ getE xs = 0 ∧ (getH xs).nx = 58 ∧ 40 < xs.length ∧ xs.getD 40 0 < 128) := by
  have hn : ¬ ((1 ≤ k ∧ k ≤ 4) ∧ (0 ≤ q ∧ q ≤ 255) ∧ ¬ (getE xs = 0 ∧ (getH xs).nx = 58 ∧ 40 < xs.length ∧ xs.getD 40 0 < 128)) := fun hh => by
    have : aboutB k q xs = true := by
      unfold aboutB inB holdsB
      rw [decide_eq_true hh.1, decide_eq_true hh.2.1, decide_eq_false hh.2.2]
      rfl
    rw [h] at this
    cases this
  by_cases h5 : getE xs = 0 ∧ (getH xs).nx = 58 ∧ 40 < xs.length ∧ xs.getD 40 0 < 128
  · obtain ⟨a, b, c, d⟩ := h5
    omega
  · have : ¬ ((1 ≤ k ∧ k ≤ 4) ∧ (0 ≤ q ∧ q ≤ 255)) := fun hh => hn ⟨hh.1, hh.2, h5⟩
    omega
theorem aboutB_yes {k q : Int} {xs : List Int} (h : aboutB k q xs = true) : (¬ k < 1 ∧ ¬ 4 < k ∧ ¬ q < 0 ∧ ¬ 255 < q) ∧ (¬ getE xs = 0 ∨ (getE xs = 0 ∧ ¬ (getH xs).nx = 58) ∨ (getE xs = 0 ∧ (getH xs).nx = 58 ∧ ¬ 40 < xs.length) ∨ (getE xs = 0 ∧ (getH xs).nx = 58 ∧ 40 < xs.length ∧ ¬ xs.getD 40 0 < 128)) := by
  unfold aboutB inB at h
  simp only [Bool.and_eq_true, decide_eq_true_eq, Bool.not_eq_true'] at h
  obtain ⟨⟨h1, h2⟩, h3⟩ := h
  refine ⟨by omega, ?_⟩
  unfold holdsB at h3
  rw [decide_eq_false_iff_not] at h3
  by_cases a : getE xs = 0
  · by_cases b : (getH xs).nx = 58
    · by_cases c : 40 < xs.length
      · exact .inr (.inr (.inr ⟨a, b, c, fun d => h3 ⟨a, b, c, d⟩⟩))
      · exact .inr (.inr (.inl ⟨a, b, c⟩))
    · exact .inr (.inl ⟨a, b⟩)
  · exact .inl a

section
variable (A : Option Addr) (n c : Nat) (xs : List Int) (w : World) (hn : n ≤ 140737488351232) (hc : n ≤ c) (hb : Bs w w.heap.size A n xs)
include hn hb

set_option maxRecDepth 100000 in
set_option maxHeartbeats 3200000 in
include hc in
include hc in
end
end Go.Proofs.YtjafjapnmffohaaGreatDoor

namespace Go.Proofs.YtjafjapnmffohaaGreatDoor
open Go.RowKit
set_option linter.unusedVariables false

theorem Mg.of_v {m : Mg} {kd cd wd : Int} {bs : List Int} (h : m.v = ⟨kd, cd, wd, bs⟩) : m.kd = kd ∧ m.cd = cd ∧ m.wd = wd ∧ m.bs = bs := by
  unfold Mg.v at h
  simpa using h
theorem exM_len : (putM zero16 zero16 ⟨129, 0, 5, []⟩).length = 8 := by
  unfold putM
  rw [if_pos (by decide)]
  simp [flatM, four]

/-- what was put is parsed as what it was -/
theorem putM_len {s d : List Int} {x : Mb} (h : okM x = true) : (putM s d x).length = x.bs.length + 8 := by
  unfold putM
  rw [if_pos h, List.length_set, List.length_set, flatM_len]
theorem putM_fine {s d : List Int} {x : Mb} (vs : AllB s) (vd : AllB d) (h : okM x = true) (hw : 0 ≤ x.wd ∧ x.wd < 4294967296) (hb : AllB x.bs) : fineB s d 58 (putM s d x) = true := by
  unfold putM
  rw [if_pos h]
  exact fine_law vs vd (flatM_all h hw hb) 58 2 (by rw [flatM_len]; omega) rfl rfl rfl
theorem parse_putM {s d : List Int} {x : Mb} (vs : AllB s) (vd : AllB d) (h : okM x = true) (hw : 0 ≤ x.wd ∧ x.wd < 4294967296) (hb : AllB x.bs) : parseE s d (putM s d x) = 0 ∧ parseM s d (putM s d x) = x := by
  have hl := putM_len (s := s) (d := d) h
  have hf := putM_fine vs vd h hw hb
  have he : parseE s d (putM s d x) = 0 := by unfold parseE; rw [if_neg (by omega), if_pos hf]
  refine ⟨he, ?_⟩
  unfold parseM
  rw [if_pos he]
  unfold putM
  rw [if_pos h]
  generalize sumM s d x / 256 % 256 = a
  generalize sumM s d x % 256 = b
  obtain ⟨kd, cd, wd, bs⟩ := x
  unfold getM flatM four num4
  dsimp only at hw ⊢
  have e : wd / 16777216 * 16777216 + wd / 65536 % 256 * 65536 + wd / 256 % 256 * 256 + wd % 256 = wd := by omega
  simpa using e
end Go.Proofs.YtjafjapnmffohaaGreatDoor
