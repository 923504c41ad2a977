/- Texts joined.
  Segments by value and in memory: their cells, loaded and stored. No condition.
  What tcp.Has, Span and First answer, and the document's Span and First. Condition: numbers are ints.
  What tcp.Span and First answer, and the document's. Condition: the payload is at most 2^47 bytes.
  What the document's Span and First answer. Condition: the payload is at most 2^47 bytes.
  What tcp.Can answers: whether a segment can be. Condition: at most 2^47 options, and as many bytes of payload.
  What the document's Can answers: whether a segment can be. Condition: at most 2^47 options, and as many bytes of payload.
  What tcp.Put answers: the bytes of a segment. Condition: at most 2^47 options, and as many bytes of payload.
  What the document's Put answers: the bytes of a segment. Condition: at most 2^47 options, and as many bytes of payload.
  What tcp.ahead and tcp.parts answer. Condition: at most 2^47 bytes.
  What the functions that stand in tcp.parts do: each reads one number of the bytes into the segment. Condition: at least 20 bytes, at most 2^47.
  What tcp.Parse answers: the segment of bytes. Condition: at most 2^47 bytes.
  What tcp.Parse answers: the segment of bytes. Condition: at most 2^47 bytes.
  What the document's Parse answers: the segment of bytes. Condition: at most 2^47 bytes.
-/
import Derived.Test.YtjafjapnmffohaaGreatDoorJTp
import Derived.Test.YtjafjapnmffohaaGreatDoorVals
import Derived.Test.YtjafjapnmffohaaGreatDoorJOct
import Derived.Test.YtjafjapnmffohaaGreatDoorApp2
import Derived.Test.YtjafjapnmffohaaGreatDoorJReg
import Derived.BigQuiet
set_option maxRecDepth 100000
namespace Go.Proofs.YtjafjapnmffohaaGreatDoor
open Go.RowKit
set_option linter.unusedVariables false

/-- a segment as it lies: its numbers; where its options are, how many, with how much room, and they; where its payload is, how long, with how much room, and it -/
structure Sg where
  sp : Int
  dp : Int
  sq : Int
  ak : Int
  fl : Int
  wi : Int
  su : Int
  ur : Int
  oA : Option Addr
  om : Nat
  oc : Nat
  os : List Od
  pA : Option Addr
  pm : Nat
  pc : Nat
  ps : List Int
/-- what a segment says -/
structure Sb where
  sp : Int
  dp : Int
  sq : Int
  ak : Int
  fl : Int
  wi : Int
  su : Int
  ur : Int
  os : List Ob
  ps : List Int
def Sg.v (t : Sg) : Sb := ⟨t.sp, t.dp, t.sq, t.ak, t.fl, t.wi, t.su, t.ur, t.os.map Od.v, t.ps⟩
/-- its numbers are as their types ask, its options and its payload lie below block B -/
structure Sg.ok (w : World) (B : Nat) (t : Sg) : Prop where
  sp : i64ok t.sp
  dp : i64ok t.dp
  sq : 0 ≤ t.sq ∧ t.sq < 4294967296
  ak : 0 ≤ t.ak ∧ t.ak < 4294967296
  fl : i64ok t.fl
  wi : i64ok t.wi
  su : i64ok t.su
  ur : i64ok t.ur
  om : t.om ≤ 140737488351232
  os : Os w B t.oA t.om t.os
  pm : t.pm ≤ 140737488351232
  ps : Bs w B t.pA t.pm t.ps
section
variable {w w' : World} {B B' : Nat} {t : Sg}
theorem Sg.ok.keep (h : t.ok w B) (hk : ∀ p : Addr, p.block < B → w'.cell? p = w.cell? p) : t.ok w' B := ⟨h.sp, h.dp, h.sq, h.ak, h.fl, h.wi, h.su, h.ur, h.om, h.os.keep hk, h.pm, h.ps.keep hk⟩
theorem Sg.ok.more (h : t.ok w B) (hB : B ≤ B') : t.ok w B' := ⟨h.sp, h.dp, h.sq, h.ak, h.fl, h.wi, h.su, h.ur, h.om, h.os.more hB, h.pm, h.ps.more hB⟩
theorem Sg.ok.below' (h : t.ok w B) (hb : Below B w w') (hB : B ≤ B') : t.ok w' B' := (h.keep fun _ hp => hb.cell hp).more hB
theorem Sg.ok.low (h : t.ok w w.heap.size) (hb : Low w w') : t.ok w' w'.heap.size := h.below' hb hb.size
end

def segC (t : Sg) : List Value := [.int .i64 t.sp, .int .i64 t.dp, .int .u32 t.sq, .int .u32 t.ak, .int .i64 t.fl, .int .i64 t.wi, .int .i64 t.su, .int .i64 t.ur, .slice t.oA t.om t.oc, .slice t.pA t.pm t.pc]
def segV (t : Sg) : Value := .agg (segC t).toArray
def zeroS : Sg := ⟨0, 0, 0, 0, 0, 0, 0, 0, none, 0, 0, [], none, 0, 0, []⟩
def zeroSb : Sb := ⟨0, 0, 0, 0, 0, 0, 0, 0, [], []⟩
theorem zeroS_ok (w : World) (B : Nat) : zeroS.ok w B := ⟨by simp [zeroS, i64ok], by simp [zeroS, i64ok], by simp [zeroS], by simp [zeroS], by simp [zeroS, i64ok], by simp [zeroS, i64ok], by simp [zeroS, i64ok], by simp [zeroS, i64ok], by simp [zeroS], Os.nil _ _ _, by simp [zeroS], Bs.nil _ _ _⟩
theorem segC_length (t : Sg) : (segC t).length = 10 := rfl
theorem segC_one (t : Sg) : (segC t).toArray.all (·.oneCell') = true := by simp [segC, Value.oneCell']
theorem seg_size : (Tryz.prog.info? 34).map (·.size) = some 10 := by kernel_rfl
theorem seg_zero : (Tryz.prog.info? 34).map (·.zero) = some (some (.agg (segC zeroS).toArray)) := by kernel_rfl

/-- block g is just the segment t -/
abbrev BlkS (w : World) (g : Nat) (t : Sg) : Prop := BlkV w 34 g (segC t)
theorem BlkS.cells {w : World} {g : Nat} {t : Sg} (h : BlkS w g t) :
    w.cell? ⟨g, 0, none⟩ = some (.int .i64 t.sp) ∧ w.cell? ⟨g, 1, none⟩ = some (.int .i64 t.dp) ∧ w.cell? ⟨g, 2, none⟩ = some (.int .u32 t.sq) ∧ w.cell? ⟨g, 3, none⟩ = some (.int .u32 t.ak) ∧ w.cell? ⟨g, 4, none⟩ = some (.int .i64 t.fl) ∧
    w.cell? ⟨g, 5, none⟩ = some (.int .i64 t.wi) ∧ w.cell? ⟨g, 6, none⟩ = some (.int .i64 t.su) ∧ w.cell? ⟨g, 7, none⟩ = some (.int .i64 t.ur) ∧ w.cell? ⟨g, 8, none⟩ = some (.slice t.oA t.om t.oc) ∧ w.cell? ⟨g, 9, none⟩ = some (.slice t.pA t.pm t.pc) :=
  ⟨h.cell 0, h.cell 1, h.cell 2, h.cell 3, h.cell 4, h.cell 5, h.cell 6, h.cell 7, h.cell 8, h.cell 9⟩
section
variable {ops : Array Oper} {rest : List Oper} {o : Oper} {a : Act} {w : World} {Q : Exit → Act → World → Prop}
theorem wpList_box_seg (hgd : o.guard = none) (x : Operand) (ho : o.op = .box 34 x) (t : Sg) (hx : a.eval x = .agg (segC t).toArray)
    (hk : ∀ w', BlkS w' w.heap.size t → Low w w' → w'.heap.size = w.heap.size + 1 → wpList Tryz.prog ops Q rest (a.put o.dst (.pointer (some ⟨w.heap.size, 0, none⟩))) w') : wpList Tryz.prog ops Q (o :: rest) a w :=
  wpList_box_v hgd 34 x ho (segC t) hx hk
theorem wpList_alloc_seg (hgd : o.guard = none) (ho : o.op = .alloc 34)
    (hk : ∀ w', BlkS w' w.heap.size zeroS → Low w w' → w'.heap.size = w.heap.size + 1 → wpList Tryz.prog ops Q rest (a.put o.dst (.pointer (some ⟨w.heap.size, 0, none⟩))) w') : wpList Tryz.prog ops Q (o :: rest) a w :=
  wpList_alloc_v hgd 34 ho (segC zeroS) seg_zero hk
theorem wpList_load_seg (hgd : o.guard = none) (x : Operand) (ho : o.op = .load 34 x) (g : Nat) (hx : a.eval x = .pointer (some ⟨g, 0, none⟩)) (t : Sg) (hb : BlkS w g t)
    (hk : wpList Tryz.prog ops Q rest (a.put o.dst (.agg (segC t).toArray)) w) : wpList Tryz.prog ops Q (o :: rest) a w :=
  wpList_load_row hgd 34 x ho g hx _ (segC t).toArray (0, 0) _ hb Tryz.underlying34 rfl (by rw [seg_size]; rfl) hk
theorem wpList_load_seg_g (hw : Region.wanted o (yielded ops a.tmps) = true) (x : Operand) (ho : o.op = .load 34 x) (g : Nat) (hx : a.eval x = .pointer (some ⟨g, 0, none⟩)) (t : Sg) (hb : BlkS w g t)
    (hk : wpList Tryz.prog ops Q rest (a.put o.dst (.agg (segC t).toArray)) w) : wpList Tryz.prog ops Q (o :: rest) a w :=
  wpList_step fun K hK => by
    simp only [hw, if_true]
    exact wp_load_row 34 x ho g hx _ (segC t).toArray (0, 0) _ hb Tryz.underlying34 rfl (by rw [seg_size]; rfl) (hK _ _ hk)
/-- a whole segment is stored -/
theorem wpList_store_seg (hgd : o.guard = none) (x y : Operand) (ho : o.op = .store 34 x y) (g : Nat) (hx : a.eval x = .pointer (some ⟨g, 0, none⟩)) (t : Sg) (hy : a.eval y = .agg (segC t).toArray) (old : Sg) (hb : BlkS w g old)
    (hk : ∀ w', BlkS w' g t → Below g w w' → w'.heap.size = w.heap.size → wpList Tryz.prog ops Q rest (a.put o.dst undef) w') : wpList Tryz.prog ops Q (o :: rest) a w :=
  wpList_store_v hgd 34 x y ho g hx (segC t) hy _ (segC old) hb rfl (by rw [seg_size]; rfl) (segC_one t) hk
end
theorem exec_load_seg {f : Operand → Value} {dd : Option Tmp} {x : Operand} {ty : TypeId} {pos : String} {gd : Option (Nat × Bool)} {w : World} {g : Nat} {t : Sg} (hx : f x = .pointer (some ⟨g, 0, none⟩)) (hb : BlkS w g t) :
    (execOp f ⟨dd, .load 34 x, ty, pos, #[], gd⟩).run Tryz.prog w = .ok (.value (.agg (segC t).toArray)) w := by
  unfold execOp
  simp only [hx, Instr.loadAt, Instr.sureAddr, Sem.run_bind, Sem.run_pure, Result.andThen_ok, run_loadVar_row w g 34 34 (segC t).toArray _ _ hb Tryz.underlying34 rfl (by rw [seg_size]; rfl)]

/-- are a segment's options few, and is its payload short? -/
def smallB (t : Sg) : Bool := decide (t.om ≤ 60) && decide (t.pm ≤ 70000)
end Go.Proofs.YtjafjapnmffohaaGreatDoor

namespace Go.Proofs.YtjafjapnmffohaaGreatDoor
open Go.RowKit
set_option linter.unusedVariables false

def hasB (x k : Int) : Bool := bits .and .i64 x k == k
def flagB (x k : Int) : Bool := bits .and .i64 x k != 0
theorem wrap_toInt (v : BitVec 64) : IntKind.i64.wrap (v.toNat : Int) = v.toInt := by
  have h := v.isLt
  rw [BitVec.toInt_eq_toNat_cond, IntKind.wrap_i64]
  split <;> omega
theorem ofInt_toInt {x : Int} (h : i64ok x) : (BitVec.ofInt 64 x).toInt = x := by
  unfold i64ok at h
  rw [BitVec.toInt_ofInt, Int.bmod_def]
  split <;> omega
theorem bits_and (x k : Int) : bits .and .i64 x k = (BitVec.ofInt 64 x &&& BitVec.ofInt 64 k).toInt := by
  rw [← wrap_toInt]; rfl
theorem bits_or (x k : Int) : bits .or .i64 x k = (BitVec.ofInt 64 x ||| BitVec.ofInt 64 k).toInt := by
  rw [← wrap_toInt]; rfl
theorem has_or {x k : Int} (hx : i64ok x) (hk : i64ok k) : hasB x k = (bits .or .i64 x k == x) := by
  have e1 : (bits .and .i64 x k = k) ↔ (BitVec.ofInt 64 x &&& BitVec.ofInt 64 k = BitVec.ofInt 64 k) := by
    rw [bits_and]
    constructor
    · intro h; apply BitVec.eq_of_toInt_eq; rw [h, ofInt_toInt hk]
    · intro h; rw [h, ofInt_toInt hk]
  have e2 : (bits .or .i64 x k = x) ↔ (BitVec.ofInt 64 x ||| BitVec.ofInt 64 k = BitVec.ofInt 64 x) := by
    rw [bits_or]
    constructor
    · intro h; apply BitVec.eq_of_toInt_eq; rw [h, ofInt_toInt hx]
    · intro h; rw [h, ofInt_toInt hx]
  rw [Bool.eq_iff_iff]
  unfold hasB
  simp only [beq_iff_eq]
  rw [e1, e2]
  generalize BitVec.ofInt 64 x = a
  generalize BitVec.ofInt 64 k = b
  constructor
  · intro h
    rw [← h]
    ext i hi
    simp
    exact fun h _ => h
  · intro h
    rw [← h]
    ext i hi
    simp
    exact fun h => .inr h
theorem has_pow (x : Int) (k : Nat) (m : Int) (hm : BitVec.ofInt 64 m = BitVec.twoPow 64 k) (h1 : (BitVec.twoPow 64 k).toInt = m) (h0 : m ≠ 0) : hasB x m = flagB x m := by
  unfold hasB flagB
  rw [bits_and, hm, BitVec.and_twoPow]
  split
  · rw [h1]; simp [h0]
  · simp [Ne.symm h0]
theorem has1 (x : Int) : hasB x 1 = flagB x 1 := has_pow x 0 1 (by decide) (by decide) (by decide)
theorem has2 (x : Int) : hasB x 2 = flagB x 2 := has_pow x 1 2 (by decide) (by decide) (by decide)
theorem has4 (x : Int) : hasB x 4 = flagB x 4 := has_pow x 2 4 (by decide) (by decide) (by decide)
theorem has16 (x : Int) : hasB x 16 = flagB x 16 := has_pow x 4 16 (by decide) (by decide) (by decide)

end Go.Proofs.YtjafjapnmffohaaGreatDoor

namespace Go.Proofs.YtjafjapnmffohaaGreatDoor
open Go.RowKit
set_option linter.unusedVariables false

def oneIf (b : Bool) (x : Int) : Int := if b then (x + 1) % 4294967296 else x
def spanV (t : Sg) : Int := oneIf (hasB t.fl 1) (oneIf (hasB t.fl 2) ((t.pm : Int) % 4294967296))
def firstV (t : Sg) : Bool := !hasB t.fl 16 && !hasB t.fl 4 && !hasB t.fl 1 && hasB t.fl 2
theorem oneIf_range {b : Bool} {x : Int} (h : 0 ≤ x ∧ x < 4294967296) : 0 ≤ oneIf b x ∧ oneIf b x < 4294967296 := by
  unfold oneIf; split <;> omega
/-- the number so far -/
def spanAt (m y z : Int) (k : Nat) : Int := if k = 0 then m else if k = 1 then y else z

end Go.Proofs.YtjafjapnmffohaaGreatDoor

namespace Go.Proofs.YtjafjapnmffohaaGreatDoor
open Go.RowKit
set_option linter.unusedVariables false

end Go.Proofs.YtjafjapnmffohaaGreatDoor

namespace Go.Proofs.YtjafjapnmffohaaGreatDoor
open Go.RowKit
set_option linter.unusedVariables false

/-- are its numbers such as their bytes have room for? -/
def fitB (x : Sb) : Bool := decide ((0 ≤ x.sp ∧ x.sp ≤ 65535) ∧ (0 ≤ x.dp ∧ x.dp ≤ 65535) ∧ (0 ≤ x.wi ∧ x.wi ≤ 65535) ∧ (0 ≤ x.su ∧ x.su ≤ 65535) ∧ (0 ≤ x.ur ∧ x.ur ≤ 65535) ∧ (0 ≤ x.fl ∧ x.fl ≤ 255))
def canS (x : Sb) : Int := if fitB x = true then (if canO x.os = 0 then (if 65515 - ((putO x.os).length : Int) < (x.ps.length : Int) then 4 else 0) else canO x.os) else 2
def numsS (x : Sb) : List Int := [x.sp, x.dp, x.wi, x.su, x.ur]
def ins16 (l : List Int) (k : Nat) : Prop := ∀ j, j < k → 0 ≤ l.getD j 0 ∧ l.getD j 0 ≤ 65535
theorem ins16_zero (l : List Int) : ins16 l 0 := fun j h => absurd h (by omega)
theorem ins16_succ {l : List Int} {k : Nat} (h : ins16 l k) (h0 : 0 ≤ l.getD k 0) (h1 : l.getD k 0 ≤ 65535) : ins16 l (k + 1) := fun j hj => by
  rcases Nat.lt_or_ge j k with h2 | h2
  · exact h j h2
  · obtain rfl : j = k := by omega
    exact ⟨h0, h1⟩
theorem fitB_false {x : Sb} {k : Nat} (hk : k < 5) (h : ¬ (0 ≤ (numsS x).getD k 0 ∧ (numsS x).getD k 0 ≤ 65535)) : canS x = 2 := by
  have hf : fitB x = false := by
    unfold fitB
    rw [decide_eq_false_iff_not]
    rintro ⟨h1, h2, h3, h4, h5, h6⟩
    apply h
    obtain rfl | rfl | rfl | rfl | rfl : k = 0 ∨ k = 1 ∨ k = 2 ∨ k = 3 ∨ k = 4 := by omega
    · exact h1
    · exact h2
    · exact h3
    · exact h4
    · exact h5
  unfold canS
  rw [hf]
  rfl
theorem fitB_flags {x : Sb} (h : ¬ (0 ≤ x.fl ∧ x.fl ≤ 255)) : canS x = 2 := by
  have hf : fitB x = false := by
    unfold fitB
    rw [decide_eq_false_iff_not]
    rintro ⟨h1, h2, h3, h4, h5, h6⟩
    exact h h6
  unfold canS
  rw [hf]
  rfl
theorem fitB_true {x : Sb} (h : ins16 (numsS x) 5) (h2 : 0 ≤ x.fl ∧ x.fl ≤ 255) : canS x = if canO x.os = 0 then (if 65515 - ((putO x.os).length : Int) < (x.ps.length : Int) then 4 else 0) else canO x.os := by
  have hf : fitB x = true := by
    unfold fitB
    rw [decide_eq_true_iff]
    exact ⟨h 0 (by omega), h 1 (by omega), h 2 (by omega), h 3 (by omega), h 4 (by omega), h2⟩
  unfold canS
  rw [hf]
  rfl

end Go.Proofs.YtjafjapnmffohaaGreatDoor

namespace Go.Proofs.YtjafjapnmffohaaGreatDoor
open Go.RowKit
set_option linter.unusedVariables false

def nums6 (x : Sb) : List Int := [x.sp, x.dp, x.wi, x.su, x.ur, x.fl]
theorem fit6_false {x : Sb} {k : Nat} (hk : k < 6) (h : ¬ (0 ≤ (nums6 x).getD k 0 ∧ (nums6 x).getD k 0 ≤ 65535)) : canS x = 2 := by
  by_cases h5 : k < 5
  · refine fitB_false h5 fun h1 => h ?_
    obtain rfl | rfl | rfl | rfl | rfl : k = 0 ∨ k = 1 ∨ k = 2 ∨ k = 3 ∨ k = 4 := by omega
    iterate 5 exact h1
  · obtain rfl : k = 5 := by omega
    refine fitB_flags fun h1 => h ?_
    change 0 ≤ x.fl ∧ x.fl ≤ 65535
    omega
theorem fit6_true {x : Sb} (h : ins16 (nums6 x) 6) (h2 : x.fl ≤ 255) : canS x = if canO x.os = 0 then (if 65515 - ((putO x.os).length : Int) < (x.ps.length : Int) then 4 else 0) else canO x.os :=
  fitB_true (fun j hj => by
    have h1 := h j (by omega)
    obtain rfl | rfl | rfl | rfl | rfl : j = 0 ∨ j = 1 ∨ j = 2 ∨ j = 3 ∨ j = 4 := by omega
    iterate 5 exact h1) ⟨(h 5 (by omega)).1, h2⟩
end Go.Proofs.YtjafjapnmffohaaGreatDoor

namespace Go.Proofs.YtjafjapnmffohaaGreatDoor
open Go.RowKit
set_option linter.unusedVariables false

/-- the bytes ahead of the options, and all -/
def headS (x : Sb) : List Int := two x.sp ++ two x.dp ++ four x.sq ++ four x.ak ++ [(5 + ((putO x.os).length : Int) / 4) * 16, x.fl] ++ two x.wi ++ two x.su ++ two x.ur
def putS (x : Sb) : List Int := if canS x = 0 then headS x ++ putO x.os ++ x.ps else []
theorem canS_zero {x : Sb} (h : canS x = 0) : fitB x = true ∧ canO x.os = 0 ∧ (x.ps.length : Int) ≤ 65515 - ((putO x.os).length : Int) := by
  unfold canS at h
  split at h
  · rename_i h1
    split at h
    · rename_i h2
      split at h
      · omega
      · exact ⟨h1, h2, by omega⟩
    · omega
  · omega
theorem fitB_spec {x : Sb} (h : fitB x = true) : (0 ≤ x.sp ∧ x.sp ≤ 65535) ∧ (0 ≤ x.dp ∧ x.dp ≤ 65535) ∧ (0 ≤ x.wi ∧ x.wi ≤ 65535) ∧ (0 ≤ x.su ∧ x.su ≤ 65535) ∧ (0 ≤ x.ur ∧ x.ur ≤ 65535) ∧ (0 ≤ x.fl ∧ x.fl ≤ 255) := of_decide_eq_true h
theorem wpList_append_full {P : Program} {w : World} {ops : Array Oper} {rest : List Oper} {o : Oper} {a : Act} {Q : Exit → Act → World → Prop} (hgd : o.guard = none) (s x : Operand) (t : TypeId)
    (ho : o.op = .call { callee := .builtin .append, args := #[s, x], argTypes := #[t, t] })
    (e : TypeId) (i : TypeInfo) (ht : P.underlying t = some (.slice e)) (hi : P.info? e = some i) (hz : i.zero = some (.int .u8 0)) (hsize : i.size = 1) (hby : i.bytes = 1)
    (b0 o0 n c0 : Nat) (xs : List Int) (hs : a.eval s = .slice (some ⟨b0, o0, none⟩) n c0) (hx0 : Bs w w.heap.size (some ⟨b0, o0, none⟩) n xs) (hc0 : c0 = n)
    (A : Option Addr) (m c : Nat) (ys : List Int) (hx : a.eval x = .slice A m c) (hy : Bs w w.heap.size A m ys) (hn : n + m ≤ 140737488355328)
    (h : ∀ A' c' w', Bs w' w'.heap.size A' (n + m) (xs ++ ys) → n + m ≤ c' → c' ≤ 9223372036854775807 → Low w w' → wpList P ops Q rest (a.put o.dst (.slice A' (n + m) c')) w') : wpList P ops Q (o :: rest) a w :=
  wpList_plain hgd fun _ hK => wp_append_full s x t ho e i ht hi hz hsize hby b0 o0 n c0 xs hs hx0 hc0 A m c ys hx hy hn fun A' c' w' h1 h2 h3 h4 => hK _ _ (h A' c' w' h1 h2 h3 h4)
theorem BlkV.drew {w : World} {t : TypeId} {g : Nat} {vs : List Value} (h : BlkV w t g vs) : BlkV w.drew t g vs := h

theorem GivesBE.of {w w' : World} {ys zs : List Int} {x y : Int} {A : Option Addr} {n c : Nat} (hy : ys = zs) (hx : x = y) (hb : Bs w' w'.heap.size A n zs) (h1 : n ≤ c) (h2 : c ≤ 9223372036854775807) (hB : Below w.heap.size w w') :
    GivesBE w ys x (.returned (.tuple #[.slice A n c, .int .i64 y])) w' := by
  subst hy hx
  obtain rfl := hb.len
  exact ⟨A, c, rfl, hb, ⟨h1, h2⟩, hB⟩

end Go.Proofs.YtjafjapnmffohaaGreatDoor

namespace Go.Proofs.YtjafjapnmffohaaGreatDoor
open Go.RowKit
set_option linter.unusedVariables false

end Go.Proofs.YtjafjapnmffohaaGreatDoor

namespace Go.Proofs.YtjafjapnmffohaaGreatDoor
open Go.RowKit
set_option linter.unusedVariables false

/-- how many bytes stand ahead of the payload, or why that can't be said -/
def aheadS (xs : List Int) : Nat × Int :=
  if xs.length < 20 then (0, 3)
  else if xs.getD 12 0 % 16 ≠ 0 ∨ xs.getD 12 0 / 16 < 5 then (0, 5)
  else if (xs.length : Int) < 4 * (xs.getD 12 0 / 16) then (0, 3)
  else ((4 * (xs.getD 12 0 / 16)).toNat, 0)
def segS (xs : List Int) (m : Nat) (os : List Ob) : Sb := ⟨num2 xs 0, num2 xs 2, num4 xs 4, num4 xs 8, xs.getD 13 0, num2 xs 14, num2 xs 16, num2 xs 18, os, xs.drop m⟩
def parseS (xs : List Int) : Sb × Int :=
  if (aheadS xs).2 = 0 then
    (if (parseL ((xs.take (aheadS xs).1).drop 20)).2 = 0 then (segS xs (aheadS xs).1 (parseL ((xs.take (aheadS xs).1).drop 20)).1, 0) else (zeroSb, (parseL ((xs.take (aheadS xs).1).drop 20)).2))
  else (zeroSb, (aheadS xs).2)
theorem and15 (b : Int) (h0 : 0 ≤ b) (h1 : b < 256) : bits .and .u8 b 15 = b % 16 := by
  have h : ∀ n : Fin 256, bits .and .u8 (n.val : Int) 15 = (n.val : Int) % 16 := by decide +kernel
  have := h ⟨b.toNat, by omega⟩
  simpa [Int.toNat_of_nonneg h0] using this

set_option maxRecDepth 100000 in
set_option maxHeartbeats 800000 in
theorem ahead_any (A : Option Addr) (n c : Nat) (xs : List Int) (w : World) (hn : n ≤ 140737488355328) (hb : Bs w w.heap.size A n xs) :
    Calls Tryz.prog 111 #[.slice A n c] w fun e w' => e = .returned (.tuple #[.int .i64 ((aheadS xs).1 : Nat), .int .i64 (aheadS xs).2]) ∧ ∃ k, w' = w.drewN k := by
  have hl := hb.len
  by_cases h20 : n < 20
  · have HX := Lib.hid (show aheadS xs = (0, 3) by unfold aheadS; rw [if_pos (by omega)])
    clear hb
    go_enter Tryz.func111, Tryz.ntmps111
    go_wp2_with fail
    go_ret2
    exact ⟨by rw [HX.out]; rfl, 0, rfl⟩
  · obtain ⟨b, o, rfl, -, hc⟩ := hb.mem (by omega)
    have c12 := hc 12 (by omega)
    have hr := hb.nonneg 12
    have HX := Lib.hid (show aheadS xs = if xs.getD 12 0 % 16 ≠ 0 ∨ xs.getD 12 0 / 16 < 5 then (0, 5) else if (n : Int) < 4 * (xs.getD 12 0 / 16) then (0, 3) else ((4 * (xs.getD 12 0 / 16)).toNat, 0) by rw [← hl]; unfold aheadS; rw [if_neg (by omega)])
    clear hc hb hl
    generalize xs.getD 12 0 = x at *
    have a15 := and15 x hr.1 hr.2
    have n12 : (12 : Int) < n := by omega
    go_enter Tryz.func111, Tryz.ntmps111
    go_wp2_with fail
    go_quiet (fail)
    have hq1 : 0 ≤ x / 16 ∧ x / 16 < 16 := by omega
    have hq2 : 0 ≤ x % 16 ∧ x % 16 < 16 := by omega
    by_cases hf : x % 16 = 0
    · by_cases h5 : x / 16 < 5
      · rw [if_pos (Or.inr h5)] at HX
        have d5 : decide (4 * (x / 16) < 20) = true := decide_eq_true (by omega)
        have h5' : 4 * (x / 16) < 20 := by omega
        generalize x / 16 = y at *
        go_wp2_with fail
        go_ret2
        exact ⟨by rw [HX.out]; rfl, _, rfl⟩
      · rw [if_neg (fun h => h.elim (fun h => h hf) h5)] at HX
        have h5' : ¬ 4 * (x / 16) < 20 := by omega
        have d5 : decide (4 * (x / 16) < 20) = false := decide_eq_false h5'
        generalize x / 16 = y at *
        by_cases hs : (n : Int) < 4 * y
        · rw [if_pos hs] at HX
          go_wp2_with fail
          go_ret2
          exact ⟨by rw [HX.out]; rfl, _, rfl⟩
        · rw [if_neg hs] at HX
          go_wp2_with fail
          go_ret2
          exact ⟨by rw [HX.out]; simp [Int.toNat_of_nonneg (show 0 ≤ 4 * y by omega)], _, rfl⟩
    · rw [if_pos (Or.inl hf)] at HX
      go_wp2_with fail
      go_ret2
      exact ⟨by rw [HX.out]; rfl, _, rfl⟩

def partsC : List Value := [.int .i64 0, .func (.func 118) #[] #[], .int .i64 2, .func (.func 119) #[] #[], .int .i64 4, .func (.func 120) #[] #[], .int .i64 8, .func (.func 121) #[] #[],
  .int .i64 13, .func (.func 122) #[] #[], .int .i64 14, .func (.func 123) #[] #[], .int .i64 16, .func (.func 124) #[] #[], .int .i64 18, .func (.func 125) #[] #[]]
set_option maxHeartbeats 800000 in
theorem parts_any (w : World) : Calls Tryz.prog 113 #[] w fun e w' => e = .returned (.slice (some ⟨w.heap.size, 0, none⟩) 8 8) ∧ BlkV w' 188 w.heap.size partsC ∧ Low w w' ∧ w'.heap.size = w.heap.size + 1 := by
  go_enter Tryz.func113, Tryz.ntmps113
  go_wp2_with fail
  go_ret
  exact ⟨rfl, BlkV.new w 188 partsC, Low.alloc _ _, by simp⟩
end Go.Proofs.YtjafjapnmffohaaGreatDoor

namespace Go.Proofs.YtjafjapnmffohaaGreatDoor
open Go.RowKit
set_option linter.unusedVariables false

theorem results_nil {P : Program} {fn : Func} (h : fn.results = #[]) (tmps : Array Value) (w : World) : (results fn tmps).run P w = .ok (.tuple #[]) w := by
  simp [results, h]
section
variable (A : Option Addr) (n c g : Nat) (xs : List Int) (t : Sg) (w : World) (hn : n ≤ 140737488355328) (h20 : 20 ≤ n) (hb : Bs w g A n xs) (hk : BlkS w g t)
include hn h20 hb hk

set_option maxHeartbeats 400000 in
theorem part1_any : Calls Tryz.prog 118 #[.pointer (some ⟨g, 0, none⟩), .slice A n c, .int .i64 0] w fun e w' => e = .returned (.tuple #[]) ∧ BlkS w' g { t with sp := num2 xs 0 } ∧ Below g w w' ∧ ∀ i : Nat, i ≠ g → w'.heap[i]? = w.heap[i]? := by
  have HK := Lib.hid hk
  have hlt := hk.lt
  have HB := Lib.hid (hb.more (Nat.le_of_lt hlt))
  clear hb hk
  go_enter Tryz.func118, Tryz.ntmps118
  go_wp2_with fail
  refine (u16_yes A n c 0 0 xs w hn HB.out rfl (by omega)).mono ?_
  rintro e w1 ⟨rfl, k, rfl⟩
  have HK1 : Hid (BlkS (w.drewN k) g t) := HK
  have hB : Below g w (w.drewN k) := below_drewN (Below.refl _ _) k
  have hz : ∀ i : Nat, (w.drewN k).heap[i]? = w.heap[i]? := fun _ => rfl
  generalize w.drewN k = w1 at *
  clear HK HB
  have f0 := HK1.out.frozen 0
  have c0 := (BlkS.cells HK1.out).1
  obtain ⟨y, hy⟩ : ∃ y, y = num2 xs 0 := ⟨_, rfl⟩
  rw [← hy]
  have HY := Lib.hid hy
  clear hy
  go_wp2_with fail
  refine bodyPost_end (results_nil Tryz.results118 _ _) rfl ⟨rfl, ?_, hB.setCell (Nat.le_refl _) _, fun i hi => (Below.heap_setCell _ _ _ i hi).trans (hz i)⟩
  rw [← HY.out]
  exact HK1.out.set_ 0 (.int .i64 y)

set_option maxHeartbeats 400000 in
theorem part2_any : Calls Tryz.prog 119 #[.pointer (some ⟨g, 0, none⟩), .slice A n c, .int .i64 2] w fun e w' => e = .returned (.tuple #[]) ∧ BlkS w' g { t with dp := num2 xs 2 } ∧ Below g w w' ∧ ∀ i : Nat, i ≠ g → w'.heap[i]? = w.heap[i]? := by
  have HK := Lib.hid hk
  have hlt := hk.lt
  have HB := Lib.hid (hb.more (Nat.le_of_lt hlt))
  clear hb hk
  go_enter Tryz.func119, Tryz.ntmps119
  go_wp2_with fail
  refine (u16_yes A n c 2 2 xs w hn HB.out rfl (by omega)).mono ?_
  rintro e w1 ⟨rfl, k, rfl⟩
  have HK1 : Hid (BlkS (w.drewN k) g t) := HK
  have hB : Below g w (w.drewN k) := below_drewN (Below.refl _ _) k
  have hz : ∀ i : Nat, (w.drewN k).heap[i]? = w.heap[i]? := fun _ => rfl
  generalize w.drewN k = w1 at *
  clear HK HB
  have f0 := HK1.out.frozen 1
  have c0 := (BlkS.cells HK1.out).2.1
  obtain ⟨y, hy⟩ : ∃ y, y = num2 xs 2 := ⟨_, rfl⟩
  rw [← hy]
  have HY := Lib.hid hy
  clear hy
  go_wp2_with fail
  refine bodyPost_end (results_nil Tryz.results119 _ _) rfl ⟨rfl, ?_, hB.setCell (Nat.le_refl _) _, fun i hi => (Below.heap_setCell _ _ _ i hi).trans (hz i)⟩
  rw [← HY.out]
  exact HK1.out.set_ 1 (.int .i64 y)

set_option maxHeartbeats 400000 in
theorem part3_any : Calls Tryz.prog 120 #[.pointer (some ⟨g, 0, none⟩), .slice A n c, .int .i64 4] w fun e w' => e = .returned (.tuple #[]) ∧ BlkS w' g { t with sq := num4 xs 4 } ∧ Below g w w' ∧ ∀ i : Nat, i ≠ g → w'.heap[i]? = w.heap[i]? := by
  have HK := Lib.hid hk
  have hlt := hk.lt
  have HB := Lib.hid (hb.more (Nat.le_of_lt hlt))
  clear hb hk
  go_enter Tryz.func120, Tryz.ntmps120
  go_wp2_with fail
  refine (u32_yes A n c 4 4 xs w hn HB.out rfl (by omega)).mono ?_
  rintro e w1 ⟨rfl, k, rfl⟩
  have HK1 : Hid (BlkS (w.drewN k) g t) := HK
  have hB : Below g w (w.drewN k) := below_drewN (Below.refl _ _) k
  have hz : ∀ i : Nat, (w.drewN k).heap[i]? = w.heap[i]? := fun _ => rfl
  generalize w.drewN k = w1 at *
  clear HK HB
  have f0 := HK1.out.frozen 2
  have c0 := (BlkS.cells HK1.out).2.2.1
  obtain ⟨y, hy⟩ : ∃ y, y = num4 xs 4 := ⟨_, rfl⟩
  rw [← hy]
  have HY := Lib.hid hy
  clear hy
  go_wp2_with fail
  refine bodyPost_end (results_nil Tryz.results120 _ _) rfl ⟨rfl, ?_, hB.setCell (Nat.le_refl _) _, fun i hi => (Below.heap_setCell _ _ _ i hi).trans (hz i)⟩
  rw [← HY.out]
  exact HK1.out.set_ 2 (.int .u32 y)

set_option maxHeartbeats 400000 in
theorem part4_any : Calls Tryz.prog 121 #[.pointer (some ⟨g, 0, none⟩), .slice A n c, .int .i64 8] w fun e w' => e = .returned (.tuple #[]) ∧ BlkS w' g { t with ak := num4 xs 8 } ∧ Below g w w' ∧ ∀ i : Nat, i ≠ g → w'.heap[i]? = w.heap[i]? := by
  have HK := Lib.hid hk
  have hlt := hk.lt
  have HB := Lib.hid (hb.more (Nat.le_of_lt hlt))
  clear hb hk
  go_enter Tryz.func121, Tryz.ntmps121
  go_wp2_with fail
  refine (u32_yes A n c 8 8 xs w hn HB.out rfl (by omega)).mono ?_
  rintro e w1 ⟨rfl, k, rfl⟩
  have HK1 : Hid (BlkS (w.drewN k) g t) := HK
  have hB : Below g w (w.drewN k) := below_drewN (Below.refl _ _) k
  have hz : ∀ i : Nat, (w.drewN k).heap[i]? = w.heap[i]? := fun _ => rfl
  generalize w.drewN k = w1 at *
  clear HK HB
  have f0 := HK1.out.frozen 3
  have c0 := (BlkS.cells HK1.out).2.2.2.1
  obtain ⟨y, hy⟩ : ∃ y, y = num4 xs 8 := ⟨_, rfl⟩
  rw [← hy]
  have HY := Lib.hid hy
  clear hy
  go_wp2_with fail
  refine bodyPost_end (results_nil Tryz.results121 _ _) rfl ⟨rfl, ?_, hB.setCell (Nat.le_refl _) _, fun i hi => (Below.heap_setCell _ _ _ i hi).trans (hz i)⟩
  rw [← HY.out]
  exact HK1.out.set_ 3 (.int .u32 y)

set_option maxHeartbeats 400000 in
theorem part5_any : Calls Tryz.prog 122 #[.pointer (some ⟨g, 0, none⟩), .slice A n c, .int .i64 13] w fun e w' => e = .returned (.tuple #[]) ∧ BlkS w' g { t with fl := xs.getD 13 0 } ∧ Below g w w' ∧ ∀ i : Nat, i ≠ g → w'.heap[i]? = w.heap[i]? := by
  have HK := Lib.hid hk
  have hlt := hk.lt
  obtain ⟨b, o, rfl, hbl, hc⟩ := hb.mem (by omega)
  have c13 := hc 13 (by omega)
  have hr := hb.nonneg 13
  have n13 : (13 : Int) < n := by omega
  obtain ⟨y, hy⟩ : ∃ y, y = xs.getD 13 0 := ⟨_, rfl⟩
  rw [← hy] at c13 hr
  have HY := Lib.hid hy
  clear hy hb hk hc
  have f0 := HK.out.frozen 4
  have c0 := (BlkS.cells HK.out).2.2.2.2.1
  go_enter Tryz.func122, Tryz.ntmps122
  go_wp2_with fail
  refine bodyPost_end (results_nil Tryz.results122 _ _) rfl ⟨rfl, ?_, (Below.refl g w).setCell (Nat.le_refl _) _, fun i hi => Below.heap_setCell _ _ _ i hi⟩
  rw [← HY.out]
  exact HK.out.set_ 4 (.int .i64 y)

set_option maxHeartbeats 400000 in
theorem part6_any : Calls Tryz.prog 123 #[.pointer (some ⟨g, 0, none⟩), .slice A n c, .int .i64 14] w fun e w' => e = .returned (.tuple #[]) ∧ BlkS w' g { t with wi := num2 xs 14 } ∧ Below g w w' ∧ ∀ i : Nat, i ≠ g → w'.heap[i]? = w.heap[i]? := by
  have HK := Lib.hid hk
  have hlt := hk.lt
  have HB := Lib.hid (hb.more (Nat.le_of_lt hlt))
  clear hb hk
  go_enter Tryz.func123, Tryz.ntmps123
  go_wp2_with fail
  refine (u16_yes A n c 14 14 xs w hn HB.out rfl (by omega)).mono ?_
  rintro e w1 ⟨rfl, k, rfl⟩
  have HK1 : Hid (BlkS (w.drewN k) g t) := HK
  have hB : Below g w (w.drewN k) := below_drewN (Below.refl _ _) k
  have hz : ∀ i : Nat, (w.drewN k).heap[i]? = w.heap[i]? := fun _ => rfl
  generalize w.drewN k = w1 at *
  clear HK HB
  have f0 := HK1.out.frozen 5
  have c0 := (BlkS.cells HK1.out).2.2.2.2.2.1
  obtain ⟨y, hy⟩ : ∃ y, y = num2 xs 14 := ⟨_, rfl⟩
  rw [← hy]
  have HY := Lib.hid hy
  clear hy
  go_wp2_with fail
  refine bodyPost_end (results_nil Tryz.results123 _ _) rfl ⟨rfl, ?_, hB.setCell (Nat.le_refl _) _, fun i hi => (Below.heap_setCell _ _ _ i hi).trans (hz i)⟩
  rw [← HY.out]
  exact HK1.out.set_ 5 (.int .i64 y)

set_option maxHeartbeats 400000 in
theorem part7_any : Calls Tryz.prog 124 #[.pointer (some ⟨g, 0, none⟩), .slice A n c, .int .i64 16] w fun e w' => e = .returned (.tuple #[]) ∧ BlkS w' g { t with su := num2 xs 16 } ∧ Below g w w' ∧ ∀ i : Nat, i ≠ g → w'.heap[i]? = w.heap[i]? := by
  have HK := Lib.hid hk
  have hlt := hk.lt
  have HB := Lib.hid (hb.more (Nat.le_of_lt hlt))
  clear hb hk
  go_enter Tryz.func124, Tryz.ntmps124
  go_wp2_with fail
  refine (u16_yes A n c 16 16 xs w hn HB.out rfl (by omega)).mono ?_
  rintro e w1 ⟨rfl, k, rfl⟩
  have HK1 : Hid (BlkS (w.drewN k) g t) := HK
  have hB : Below g w (w.drewN k) := below_drewN (Below.refl _ _) k
  have hz : ∀ i : Nat, (w.drewN k).heap[i]? = w.heap[i]? := fun _ => rfl
  generalize w.drewN k = w1 at *
  clear HK HB
  have f0 := HK1.out.frozen 6
  have c0 := (BlkS.cells HK1.out).2.2.2.2.2.2.1
  obtain ⟨y, hy⟩ : ∃ y, y = num2 xs 16 := ⟨_, rfl⟩
  rw [← hy]
  have HY := Lib.hid hy
  clear hy
  go_wp2_with fail
  refine bodyPost_end (results_nil Tryz.results124 _ _) rfl ⟨rfl, ?_, hB.setCell (Nat.le_refl _) _, fun i hi => (Below.heap_setCell _ _ _ i hi).trans (hz i)⟩
  rw [← HY.out]
  exact HK1.out.set_ 6 (.int .i64 y)

set_option maxHeartbeats 400000 in
theorem part8_any : Calls Tryz.prog 125 #[.pointer (some ⟨g, 0, none⟩), .slice A n c, .int .i64 18] w fun e w' => e = .returned (.tuple #[]) ∧ BlkS w' g { t with ur := num2 xs 18 } ∧ Below g w w' ∧ ∀ i : Nat, i ≠ g → w'.heap[i]? = w.heap[i]? := by
  have HK := Lib.hid hk
  have hlt := hk.lt
  have HB := Lib.hid (hb.more (Nat.le_of_lt hlt))
  clear hb hk
  go_enter Tryz.func125, Tryz.ntmps125
  go_wp2_with fail
  refine (u16_yes A n c 18 18 xs w hn HB.out rfl (by omega)).mono ?_
  rintro e w1 ⟨rfl, k, rfl⟩
  have HK1 : Hid (BlkS (w.drewN k) g t) := HK
  have hB : Below g w (w.drewN k) := below_drewN (Below.refl _ _) k
  have hz : ∀ i : Nat, (w.drewN k).heap[i]? = w.heap[i]? := fun _ => rfl
  generalize w.drewN k = w1 at *
  clear HK HB
  have f0 := HK1.out.frozen 7
  have c0 := (BlkS.cells HK1.out).2.2.2.2.2.2.2.1
  obtain ⟨y, hy⟩ : ∃ y, y = num2 xs 18 := ⟨_, rfl⟩
  rw [← hy]
  have HY := Lib.hid hy
  clear hy
  go_wp2_with fail
  refine bodyPost_end (results_nil Tryz.results125 _ _) rfl ⟨rfl, ?_, hB.setCell (Nat.le_refl _) _, fun i hi => (Below.heap_setCell _ _ _ i hi).trans (hz i)⟩
  rw [← HY.out]
  exact HK1.out.set_ 7 (.int .i64 y)

end
end Go.Proofs.YtjafjapnmffohaaGreatDoor

namespace Go.Proofs.YtjafjapnmffohaaGreatDoor
open Go.RowKit
set_option linter.unusedVariables false

/-- a segment and a number are handed back -/
def GivesS (w : World) (r : Sb × Int) (e : Ending) (w' : World) : Prop :=
  ∃ t : Sg, e = .returned (.tuple #[segV t, .int .i64 r.2]) ∧ t.v = r.1 ∧ t.ok w' w'.heap.size ∧ Below w.heap.size w w'
/-- what a segment holds lies from block lo on -/
def SFrom (lo : Nat) (t : Sg) : Prop := OFrom lo t.oA t.om t.os ∧ (0 < t.pm → ∃ b p, t.pA = some ⟨b, p, none⟩ ∧ lo ≤ b)
theorem OFrom.lessS {lo lo' n : Nat} {A : Option Addr} {os : List Od} (h : OFrom lo A n os) (hl : lo' ≤ lo) : OFrom lo' A n os :=
  ⟨fun hn => by
    obtain ⟨b, p, e, hb⟩ := h.1 hn
    exact ⟨b, p, e, by omega⟩, fun o ho => (h.2 o ho).less hl⟩
theorem zeroS_from (lo : Nat) : SFrom lo zeroS := ⟨⟨fun h => absurd h (by show ¬ 0 < 0; omega), fun o ho => by cases ho⟩, fun h => absurd h (by show ¬ 0 < 0; omega)⟩
def GivesSF (w : World) (r : Sb × Int) (e : Ending) (w' : World) : Prop :=
  ∃ t : Sg, e = .returned (.tuple #[segV t, .int .i64 r.2]) ∧ t.v = r.1 ∧ t.ok w' w'.heap.size ∧ Below w.heap.size w w' ∧ SFrom w.heap.size t
theorem GivesSF.weak {w w' : World} {r : Sb × Int} {e : Ending} (h : GivesSF w r e w') : GivesS w r e w' := by
  obtain ⟨t, h1, h2, h3, h4, _⟩ := h
  exact ⟨t, h1, h2, h3, h4⟩
theorem GivesSF.of {w w' : World} {r : Sb × Int} {x : Sb} {k : Int} {t : Sg} (hr : r = (x, k)) (ht : t.v = x) (hk : t.ok w' w'.heap.size) (hB : Below w.heap.size w w') (hf : SFrom w.heap.size t) : GivesSF w r (.returned (.tuple #[segV t, .int .i64 k])) w' := by
  subst hr
  exact ⟨t, rfl, ht, hk, hB, hf⟩
theorem GivesS.of {w w' : World} {r : Sb × Int} {x : Sb} {k : Int} {t : Sg} (hr : r = (x, k)) (ht : t.v = x) (hk : t.ok w' w'.heap.size) (hB : Below w.heap.size w w') : GivesS w r (.returned (.tuple #[segV t, .int .i64 k])) w' := by
  subst hr
  exact ⟨t, rfl, ht, hk, hB⟩
theorem ret_seg {fn : Func} {p q : Tmp} {R : Ending → World → Prop} {tmps : Array Value} {df : List Deferred} {w : World} {g : Nat} {t : Sg} {er : Int} (hfn : fn.results = #[.cell p 34, .tmp q]) (hp : tmps.getD p undef = .pointer (some ⟨g, 0, none⟩)) (hq : tmps.getD q undef = .int .i64 er)
    (hb : BlkS w g t) (hR : R (.returned (.tuple #[segV t, .int .i64 er])) w) (hd : df = []) : bodyPost Tryz.prog fn R .ret ⟨tmps, df⟩ w :=
  bodyPost_ret (results_cell_tmp hfn tmps w g _ _ _ _ _ hp hq hb Tryz.underlying34 rfl (by rw [seg_size]; rfl)) hd hR

theorem Bs.mid {w : World} {B b o n s m : Nat} {xs : List Int} (h : Bs w B (some ⟨b, o, none⟩) n xs) (hs : s ≤ m) (hm : m ≤ n) : Bs w B (some ⟨b, o + s, none⟩) (m - s) ((xs.take m).drop s) :=
  ⟨by rw [List.length_drop, List.length_take, h.len]; omega, (h.all.take m).drop s, fun hn => by
    obtain ⟨b', o', e, hb, hc⟩ := h.mem (by omega)
    injection e with e
    injection e with e1 e2 _
    subst e1 e2
    refine ⟨_, _, rfl, hb, fun i hi => ?_⟩
    have := hc (s + i) (by omega)
    rw [← Nat.add_assoc] at this
    rw [this]
    have hlt : s + i < m := by omega
    simp [List.getD, List.getElem?_drop, hlt]⟩

/-- a slice is cut, whatever its room is -/
theorem run_mid (b o n c m : Nat) (hn : n ≤ 140737488355328) (h1 : 20 ≤ m) (h2 : m ≤ n) (hc : n ≤ c) (hc2 : c ≤ 9223372036854775807) :
    ∃ A', (∀ u, (Instr.sliceAt 22 (.slice (some ⟨b, o, none⟩) n c) (some (.int .i64 20)) (some (.int .i64 (m : Int))) none).run Tryz.prog u = .ok (.slice A' (m - 20) (c - 20)) u) ∧ (0 < m - 20 → A' = some ⟨b, o + 20, none⟩) := by
  have i1 : (20 : Int) ≤ m := by omega
  have i2 : (m : Int) ≤ c := by omega
  have i3 : (20 : Int) ≤ c := by omega
  by_cases h : c = 20
  · obtain rfl : m = 20 := by omega
    subst h
    refine ⟨some ⟨b, o, none⟩, fun u => by go_simp, fun h => by omega⟩
  · refine ⟨some ⟨b, o + 20, none⟩, fun u => by go_simp, fun _ => rfl⟩
theorem run_behind (b o n c m : Nat) (hn : n ≤ 140737488355328) (h2 : m ≤ n) (hc : n ≤ c) (hc2 : c ≤ 9223372036854775807) :
    ∃ A', (∀ u, (Instr.sliceAt 22 (.slice (some ⟨b, o, none⟩) n c) (some (.int .i64 (m : Int))) none none).run Tryz.prog u = .ok (.slice A' (n - m) (c - m)) u) ∧ (0 < n - m → A' = some ⟨b, o + m, none⟩) := by
  by_cases h : c = m
  · subst h
    refine ⟨some ⟨b, o, none⟩, fun u => by go_simp, fun h => by omega⟩
  · refine ⟨some ⟨b, o + m, none⟩, fun u => by go_simp, fun _ => rfl⟩
theorem exec_slice {f : Operand → Value} {dd : Option Tmp} {t : TypeId} {x : Operand} {lo hi mx : Option Operand} {ty : TypeId} {pos : String} {gd : Option (Nat × Bool)} {w : World} {v : Value}
    (h : (Instr.sliceAt t (f x) (lo.map f) (hi.map f) (mx.map f)).run Tryz.prog w = .ok v w) : (execOp f ⟨dd, .slice t x lo hi mx, ty, pos, #[], gd⟩).run Tryz.prog w = .ok (.value v) w := by
  unfold execOp
  simp only [Sem.run_bind, h, Result.andThen_ok, Sem.run_pure]
theorem wpList_slice {ops : Array Oper} {rest : List Oper} {o : Oper} {a : Act} {w : World} {Q : Exit → Act → World → Prop} (hgd : o.guard = none) (t : TypeId) (x : Operand) (lo hi mx : Option Operand) (ho : o.op = .slice t x lo hi mx) (v : Value)
    (h : (Instr.sliceAt t (a.eval x) (lo.map a.eval) (hi.map a.eval) (mx.map a.eval)).run Tryz.prog w = .ok v w) (hk : wpList Tryz.prog ops Q rest (a.put o.dst v) w) : wpList Tryz.prog ops Q (o :: rest) a w :=
  wpList_plain hgd fun K hK => by
    unfold Oper.wp execOp
    simp only [ho, Sem.run_bind, h, Result.andThen_ok, Sem.run_pure]
    exact hK _ _ hk
theorem Bs.at_mid {w : World} {B n m : Nat} {A' : Option Addr} {b o s : Nat} {xs : List Int} (h : Bs w B (some ⟨b, o, none⟩) n xs) (hs : s ≤ m) (hm : m ≤ n) (hA : 0 < m - s → A' = some ⟨b, o + s, none⟩) : Bs w B A' (m - s) ((xs.take m).drop s) := by
  have h1 := h.mid hs hm
  rcases Nat.eq_zero_or_pos (m - s) with h0 | h0
  · rw [h0] at h1 ⊢
    exact ⟨h1.len, h1.all, fun h => by omega⟩
  · rw [hA h0]; exact h1

theorem Bs.at_behind {w : World} {B n : Nat} {A' : Option Addr} {b o s : Nat} {xs : List Int} (h : Bs w B (some ⟨b, o, none⟩) n xs) (hs : s ≤ n) (hA : 0 < n - s → A' = some ⟨b, o + s, none⟩) : Bs w B A' (n - s) (xs.drop s) := by
  have h1 := h.at_mid (m := n) hs (Nat.le_refl _) hA
  rw [List.take_of_length_le (by rw [h.len]; omega)] at h1
  exact h1

theorem aheadS_ok {xs : List Int} (hall : AllB xs) (h : (aheadS xs).2 = 0) : 20 ≤ (aheadS xs).1 ∧ (aheadS xs).1 ≤ 60 ∧ (aheadS xs).1 ≤ xs.length := by
  have hr := hall.getD 12
  unfold aheadS at h ⊢
  split
  · rename_i h1; rw [if_pos h1] at h; simp at h
  · rename_i h1
    rw [if_neg h1] at h
    split
    · rename_i h2; rw [if_pos h2] at h; simp at h
    · rename_i h2
      rw [if_neg h2] at h
      split
      · rename_i h3; rw [if_pos h3] at h; simp at h
      · dsimp only
        omega
theorem aheadS_err (xs : List Int) : 0 ≤ (aheadS xs).2 ∧ (aheadS xs).2 ≤ 5 := by
  unfold aheadS
  repeat' split
  all_goals simp

theorem tcnum2 {xs : List Int} (h : AllB xs) (p : Nat) : 0 ≤ num2 xs p ∧ num2 xs p < 65536 := by
  have h1 := h.getD p
  have h2 := h.getD (p + 1)
  unfold num2
  omega
theorem tcnum4 {xs : List Int} (h : AllB xs) (p : Nat) : 0 ≤ num4 xs p ∧ num4 xs p < 4294967296 := by
  have h1 := h.getD p
  have h2 := h.getD (p + 1)
  have h3 := h.getD (p + 2)
  have h4 := h.getD (p + 3)
  unfold num4
  omega
/-- what lies from block lo on is as it was, where nothing from there on has changed -/
theorem Os.upper {w w' : World} {lo B n : Nat} {A : Option Addr} {os : List Od} (h : Os w B A n os) (hf : OFrom lo A n os) (hk : ∀ p : Addr, lo ≤ p.block → p.block < B → w'.cell? p = w.cell? p) : Os w' B A n os :=
  ⟨h.len, fun o ho => ⟨(h.all o ho).1, (h.all o ho).2.1, (h.all o ho).2.2.len, (h.all o ho).2.2.all, fun hn => by
    obtain ⟨b, p, e, hb, hc⟩ := (h.all o ho).2.2.mem hn
    obtain ⟨b', p', e', hl⟩ := hf.2 o ho hn
    rw [e] at e'
    injection e' with e'
    injection e' with e1 e2 _
    subst e1 e2
    exact ⟨b, p, e, hb, fun i hi => (hk _ hl hb).trans (hc i hi)⟩⟩, fun hn => by
    obtain ⟨b, p, e, hb, hc⟩ := h.mem hn
    obtain ⟨b', p', e', hl⟩ := hf.1 hn
    rw [e] at e'
    injection e' with e'
    injection e' with e1 e2 _
    subst e1 e2
    exact ⟨b, p, e, hb, fun i hi => ⟨(hk _ hl hb).trans (hc i hi).1, (hk _ hl hb).trans (hc i hi).2⟩⟩⟩
/-- a whole segment is stored: no other block changes -/
theorem wpList_store_seg2 {ops : Array Oper} {rest : List Oper} {o : Oper} {a : Act} {w : World} {Q : Exit → Act → World → Prop} (hgd : o.guard = none) (x y : Operand) (ho : o.op = .store 34 x y) (g : Nat) (hx : a.eval x = .pointer (some ⟨g, 0, none⟩)) (t : Sg) (hy : a.eval y = .agg (segC t).toArray) (old : Sg) (hb : BlkS w g old)
    (hk : ∀ w', BlkS w' g t → Below g w w' → (∀ p : Addr, p.block ≠ g → w'.cell? p = w.cell? p) → w'.heap.size = w.heap.size → wpList Tryz.prog ops Q rest (a.put o.dst undef) w') : wpList Tryz.prog ops Q (o :: rest) a w :=
  wpList_store_row hgd 34 x y ho g _ hx hy _ _ hb (by rw [seg_size]; rfl) rfl (segC_one t) (hk _ (BlkV.setRow hb _) (low_setRow _ _ _ (Nat.le_refl _)) (fun p hp => World.cell?_of_block (by simp [World.setRow, Array.getElem?_modify, Ne.symm hp])) (by simp))
/-- the segment when k of its parts are read -/
def segAt (xs : List Int) (oA : Option Addr) (om oc : Nat) (os : List Od) (k : Nat) : Sg :=
  ⟨if 1 ≤ k then num2 xs 0 else 0, if 2 ≤ k then num2 xs 2 else 0, if 3 ≤ k then num4 xs 4 else 0, if 4 ≤ k then num4 xs 8 else 0, if 5 ≤ k then xs.getD 13 0 else 0, if 6 ≤ k then num2 xs 14 else 0, if 7 ≤ k then num2 xs 16 else 0, if 8 ≤ k then num2 xs 18 else 0, oA, om, oc, os, none, 0, 0, []⟩

set_option maxRecDepth 100000 in
set_option maxHeartbeats 1600000 in
theorem tcparse_err (A : Option Addr) (n c : Nat) (xs : List Int) (w : World) (hn : n ≤ 140737488355328) (hc : n ≤ c) (hc2 : c ≤ 9223372036854775807) (hb : Bs w w.heap.size A n xs) (h : (aheadS xs).2 ≠ 0) :
    Calls Tryz.prog 109 #[.slice A n c] w (GivesSF w (parseS xs)) := by
  have HX := Lib.hid (show parseS xs = (zeroSb, (aheadS xs).2) by unfold parseS; rw [if_neg h])
  go_enter Tryz.func109, Tryz.ntmps109
  go_wp2_with ((with_reducible refine wpList_alloc_seg rfl rfl ?_); intro w1 HZ hL hz1; refine Hid.out ?_)
  refine Lib.hid ?_
  replace HZ := Lib.hid HZ
  replace hb := hb.below' hL hL.size
  go_wp2_with fail
  refine (ahead_any A n c xs w1 hn hb).mono ?_
  rintro e w2 ⟨rfl, k, rfl⟩
  replace HZ : Hid (BlkS (w1.drewN k) w.heap.size zeroS) := HZ
  replace hL := below_drewN hL k
  clear hb hz1
  generalize w1.drewN k = w3 at *
  generalize (aheadS xs).1 = m at *
  obtain ⟨x, hx⟩ : ∃ x, x = (aheadS xs).2 := ⟨_, rfl⟩
  rw [← hx] at h HX ⊢
  clear hx
  go_wp2_with ((refine wpList_store_seg rfl (.tmp 2) (.tmp 17) rfl w.heap.size rfl zeroS rfl zeroS HZ.out ?_); intro w4 HG hb4 hz4)
  exact ret_seg Tryz.results109 rfl rfl HG (GivesSF.of HX.out rfl (zeroS_ok _ _) (Below.trans hL hb4) (zeroS_from _)) rfl
end Go.Proofs.YtjafjapnmffohaaGreatDoor

namespace Go.Proofs.YtjafjapnmffohaaGreatDoor
open Go.RowKit
set_option linter.unusedVariables false

theorem tcpart_size : (Tryz.prog.info? 188).map (·.size) = some 2 := by kernel_rfl
theorem tcpart_zero : (Tryz.prog.info? 188).map (·.zero) = some (some (.agg [Value.int .i64 0, Value.nilFunc].toArray)) := by kernel_rfl

set_option maxRecDepth 100000 in
set_option maxHeartbeats 1600000 in
theorem tcparse_yes (A : Option Addr) (n c : Nat) (xs : List Int) (w : World) (hn0 : n ≤ 140737488351232) (hc : n ≤ c) (hc2 : c ≤ 9223372036854775807) (hb : Bs w w.heap.size A n xs) (h : (aheadS xs).2 = 0) :
    Calls Tryz.prog 109 #[.slice A n c] w (GivesSF w (parseS xs)) := by
  have hn : n ≤ 140737488355328 := by omega
  have HX := Lib.hid (show parseS xs = if (parseL ((xs.take (aheadS xs).1).drop 20)).2 = 0 then (segS xs (aheadS xs).1 (parseL ((xs.take (aheadS xs).1).drop 20)).1, 0) else (zeroSb, (parseL ((xs.take (aheadS xs).1).drop 20)).2) by unfold parseS; rw [if_pos h])
  obtain ⟨hm1, hm2, hm3⟩ := aheadS_ok hb.all h
  rw [hb.len] at hm3
  have HA := Lib.hid h
  clear h
  obtain ⟨b, o, rfl, hbl, -⟩ := hb.mem (by omega)
  have HB := Lib.hid hb
  go_enter Tryz.func109, Tryz.ntmps109
  go_wp2_with ((with_reducible refine wpList_alloc_seg rfl rfl ?_); intro w1 HZ hL hz1; refine Hid.out ?_)
  refine Lib.hid ?_
  replace HZ := Lib.hid HZ
  replace hb := hb.below' hL hL.size
  go_wp2_with fail
  refine (ahead_any _ n c xs w1 hn hb).mono ?_
  rintro e w2 ⟨rfl, k, rfl⟩
  rw [HA.out]
  replace HZ : Hid (BlkS (w1.drewN k) w.heap.size zeroS) := HZ
  replace hL := below_drewN hL k
  have hsz3 : (w1.drewN k).heap.size = w.heap.size + 1 := hz1
  clear hb hz1
  generalize w1.drewN k = w3 at *
  obtain ⟨m, hm⟩ : ∃ m, m = (aheadS xs).1 := ⟨_, rfl⟩
  rw [← hm] at HX hm1 hm2 hm3 ⊢
  clear hm HA
  obtain ⟨A', hcut, hA'⟩ := run_mid b o n c m hn hm1 hm3 hc hc2
  have hmid := (HB.out.below' hL hL.size).at_mid (s := 20) (m := m) hm1 hm3 hA'
  have HCUT := Lib.hid (hcut w3)
  clear hA' hcut
  generalize (xs.take m).drop 20 = ys at *
  go_wp2_with ((refine wpList_slice rfl 22 (.tmp 20) (some (.const (.int .i64 20))) (some (.tmp 21)) none rfl (.slice A' (m - 20) (c - 20)) HCUT.out ?_); refine Hid.out ?_)
  refine Lib.hid ?_
  go_wp2_with fail
  refine (tparse_any A' (m - 20) (c - 20) ys w3 (by omega) (by omega) (by omega) hmid).mono ?_
  rintro e w4 ⟨oA, oc, os, rfl, hov, hos, hB4, hof⟩
  have hrl := parseL_len ys
  generalize parseL ys = r at *
  obtain ⟨ol, re⟩ := r
  dsimp only at hov hos hof hrl HX ⊢
  replace HZ := Lib.hid (HZ.out.below hB4 HZ.out.lt)
  have hL4 : Low w w4 := Below.trans hL (hB4.mono hL.size)
  clear hmid HCUT hB4
  by_cases hre : re = 0
  · rw [if_pos hre] at HX
    subst hre
    obtain ⟨om, hom⟩ : ∃ om, om = ol.length := ⟨_, rfl⟩
    rw [← hom] at hos hof hrl ⊢
    clear hom
    have HOF := Lib.hid hof
    have hR3 : w.heap.size < w3.heap.size := by rw [hsz3]; omega
    clear hof hsz3
    have HOS := Lib.hid hos
    have HOV := Lib.hid hov
    clear hos hov hL
    go_wp2_with ((with_reducible refine wpList_alloc_seg rfl rfl ?_); intro w5 HN hL5 hz5; refine Hid.out ?_)
    refine Lib.hid ?_
    replace HN := Lib.hid HN
    go_wp2_with ((refine wpList_store_seg rfl (.tmp 7) (.tmp 31) rfl w4.heap.size rfl (segAt xs oA om oc os 0) rfl zeroS HN.out ?_); intro w6 HT hb6 hz6; refine Hid.out ?_)
    refine Lib.hid ?_
    replace hL5 : Low w4 w6 := Below.trans hL5 hb6
    replace HT := Lib.hid HT
    clear HN hb6
    go_wp2_with fail
    refine (parts_any w6).mono ?_
    rintro e w7 ⟨rfl, hP, hL7, hz7⟩
    replace hL5 := Low.trans hL5 hL7
    replace HT := Lib.hid (HT.out.below hL7 HT.out.lt)
    rw [hz6, hz5] at hP ⊢
    have hsz : w7.heap.size = w4.heap.size + 2 := by omega
    have HP := Lib.hid hP
    clear hP hL7 hz5 hz6 hz7
    go_wp2_with fail
    go_loopw [34] (fun i wr => ∃ k : Nat, k ≤ 8 ∧ i = .int .i64 k ∧ Hid (BlkS wr w4.heap.size (segAt xs oA om oc os k) ∧ BlkV wr 188 (w4.heap.size + 1) partsC ∧ Low w4 wr)) (fun i _ => 8 - (intOf i).toNat)
    case atStart => exact ⟨0, by omega, rfl, Lib.hid ⟨HT.out, HP.out, hL5⟩⟩
    case round =>
      clear HT HP hL5 hsz
      obtain ⟨k, hk, rfl, HR⟩ := hrel
      obtain rfl | rfl | rfl | rfl | rfl | rfl | rfl | rfl | rfl : k = 0 ∨ k = 1 ∨ k = 2 ∨ k = 3 ∨ k = 4 ∨ k = 5 ∨ k = 6 ∨ k = 7 ∨ k = 8 := by omega
      · have d0 : wr.cell? ⟨w4.heap.size + 1, 0, none⟩ = some (.int .i64 0) := HR.out.2.1.cell 0
        have d1 : wr.cell? ⟨w4.heap.size + 1, 1, none⟩ = some (.func (.func 118) #[] #[]) := HR.out.2.1.cell 1
        go_wp2_with (first
          | ((with_reducible refine wpList_alloc_v rfl 188 rfl [.int .i64 0, .nilFunc] tcpart_zero ?_); intro w8 HZ8 hl8 hz8; replace HZ8 := Lib.hid HZ8)
          | ((refine wpList_store_v rfl 188 (.tmp 9) (.tmp 37) rfl wr.heap.size rfl [.int .i64 0, .func (.func 118) #[] #[]] rfl _ _ HZ8.out rfl (by rw [tcpart_size]; rfl) (by simp [Value.oneCell']) ?_); intro w9 HP9 hb9 hz9; refine Hid.out ?_))
        refine Lib.hid ?_
        have hl9 : Low wr w9 := Below.trans hl8 hb9
        have e0 := HP9.cell 0
        have e1 := HP9.cell 1
        replace e0 : _ = some (Value.int .i64 0) := e0
        replace e1 : _ = some (Value.func (.func 118) #[] #[]) := e1
        clear HZ8 hl8 hz8 hb9 hz9 d0 d1 HP9
        have HR9 := Lib.hid (show BlkS w9 w4.heap.size (segAt xs oA om oc os 0) ∧ BlkV w9 188 (w4.heap.size + 1) partsC ∧ Low w4 w9 from ⟨HR.out.1.below hl9 HR.out.1.lt, HR.out.2.1.below hl9 HR.out.2.1.lt, Low.trans HR.out.2.2 hl9⟩)
        clear hl9 HR
        go_wp2_with fail
        refine (part1_any (some ⟨b, o, none⟩) n c w4.heap.size xs (segAt xs oA om oc os 0) w9 hn (by omega) ((HB.out.below' hL4 hL4.size).below HR9.out.2.2) HR9.out.1).mono ?_
        rintro e w10 ⟨rfl, hS, hbT, hoth⟩
        have HR10 : Hid (BlkS w10 w4.heap.size (segAt xs oA om oc os 1) ∧ BlkV w10 188 (w4.heap.size + 1) partsC ∧ Low w4 w10) := Lib.hid ⟨hS, (hoth _ (by omega)).trans HR9.out.2.1, Below.trans HR9.out.2.2 hbT⟩
        clear hS hbT hoth HR9 e0 e1
        go_wp2_with fail
        go_roundw
        case rel => exact ⟨1, by omega, rfl, HR10⟩
        case measure => simp [intOf]
      · have d0 : wr.cell? ⟨w4.heap.size + 1, 2, none⟩ = some (.int .i64 2) := HR.out.2.1.cell 2
        have d1 : wr.cell? ⟨w4.heap.size + 1, 3, none⟩ = some (.func (.func 119) #[] #[]) := HR.out.2.1.cell 3
        go_wp2_with (first
          | ((with_reducible refine wpList_alloc_v rfl 188 rfl [.int .i64 0, .nilFunc] tcpart_zero ?_); intro w8 HZ8 hl8 hz8; replace HZ8 := Lib.hid HZ8)
          | ((refine wpList_store_v rfl 188 (.tmp 9) (.tmp 37) rfl wr.heap.size rfl [.int .i64 2, .func (.func 119) #[] #[]] rfl _ _ HZ8.out rfl (by rw [tcpart_size]; rfl) (by simp [Value.oneCell']) ?_); intro w9 HP9 hb9 hz9; refine Hid.out ?_))
        refine Lib.hid ?_
        have hl9 : Low wr w9 := Below.trans hl8 hb9
        have e0 := HP9.cell 0
        have e1 := HP9.cell 1
        replace e0 : _ = some (Value.int .i64 2) := e0
        replace e1 : _ = some (Value.func (.func 119) #[] #[]) := e1
        clear HZ8 hl8 hz8 hb9 hz9 d0 d1 HP9
        have HR9 := Lib.hid (show BlkS w9 w4.heap.size (segAt xs oA om oc os 1) ∧ BlkV w9 188 (w4.heap.size + 1) partsC ∧ Low w4 w9 from ⟨HR.out.1.below hl9 HR.out.1.lt, HR.out.2.1.below hl9 HR.out.2.1.lt, Low.trans HR.out.2.2 hl9⟩)
        clear hl9 HR
        go_wp2_with fail
        refine (part2_any (some ⟨b, o, none⟩) n c w4.heap.size xs (segAt xs oA om oc os 1) w9 hn (by omega) ((HB.out.below' hL4 hL4.size).below HR9.out.2.2) HR9.out.1).mono ?_
        rintro e w10 ⟨rfl, hS, hbT, hoth⟩
        have HR10 : Hid (BlkS w10 w4.heap.size (segAt xs oA om oc os 2) ∧ BlkV w10 188 (w4.heap.size + 1) partsC ∧ Low w4 w10) := Lib.hid ⟨hS, (hoth _ (by omega)).trans HR9.out.2.1, Below.trans HR9.out.2.2 hbT⟩
        clear hS hbT hoth HR9 e0 e1
        go_wp2_with fail
        go_roundw
        case rel => exact ⟨2, by omega, rfl, HR10⟩
        case measure => simp [intOf]
      · have d0 : wr.cell? ⟨w4.heap.size + 1, 4, none⟩ = some (.int .i64 4) := HR.out.2.1.cell 4
        have d1 : wr.cell? ⟨w4.heap.size + 1, 5, none⟩ = some (.func (.func 120) #[] #[]) := HR.out.2.1.cell 5
        go_wp2_with (first
          | ((with_reducible refine wpList_alloc_v rfl 188 rfl [.int .i64 0, .nilFunc] tcpart_zero ?_); intro w8 HZ8 hl8 hz8; replace HZ8 := Lib.hid HZ8)
          | ((refine wpList_store_v rfl 188 (.tmp 9) (.tmp 37) rfl wr.heap.size rfl [.int .i64 4, .func (.func 120) #[] #[]] rfl _ _ HZ8.out rfl (by rw [tcpart_size]; rfl) (by simp [Value.oneCell']) ?_); intro w9 HP9 hb9 hz9; refine Hid.out ?_))
        refine Lib.hid ?_
        have hl9 : Low wr w9 := Below.trans hl8 hb9
        have e0 := HP9.cell 0
        have e1 := HP9.cell 1
        replace e0 : _ = some (Value.int .i64 4) := e0
        replace e1 : _ = some (Value.func (.func 120) #[] #[]) := e1
        clear HZ8 hl8 hz8 hb9 hz9 d0 d1 HP9
        have HR9 := Lib.hid (show BlkS w9 w4.heap.size (segAt xs oA om oc os 2) ∧ BlkV w9 188 (w4.heap.size + 1) partsC ∧ Low w4 w9 from ⟨HR.out.1.below hl9 HR.out.1.lt, HR.out.2.1.below hl9 HR.out.2.1.lt, Low.trans HR.out.2.2 hl9⟩)
        clear hl9 HR
        go_wp2_with fail
        refine (part3_any (some ⟨b, o, none⟩) n c w4.heap.size xs (segAt xs oA om oc os 2) w9 hn (by omega) ((HB.out.below' hL4 hL4.size).below HR9.out.2.2) HR9.out.1).mono ?_
        rintro e w10 ⟨rfl, hS, hbT, hoth⟩
        have HR10 : Hid (BlkS w10 w4.heap.size (segAt xs oA om oc os 3) ∧ BlkV w10 188 (w4.heap.size + 1) partsC ∧ Low w4 w10) := Lib.hid ⟨hS, (hoth _ (by omega)).trans HR9.out.2.1, Below.trans HR9.out.2.2 hbT⟩
        clear hS hbT hoth HR9 e0 e1
        go_wp2_with fail
        go_roundw
        case rel => exact ⟨3, by omega, rfl, HR10⟩
        case measure => simp [intOf]
      · have d0 : wr.cell? ⟨w4.heap.size + 1, 6, none⟩ = some (.int .i64 8) := HR.out.2.1.cell 6
        have d1 : wr.cell? ⟨w4.heap.size + 1, 7, none⟩ = some (.func (.func 121) #[] #[]) := HR.out.2.1.cell 7
        go_wp2_with (first
          | ((with_reducible refine wpList_alloc_v rfl 188 rfl [.int .i64 0, .nilFunc] tcpart_zero ?_); intro w8 HZ8 hl8 hz8; replace HZ8 := Lib.hid HZ8)
          | ((refine wpList_store_v rfl 188 (.tmp 9) (.tmp 37) rfl wr.heap.size rfl [.int .i64 8, .func (.func 121) #[] #[]] rfl _ _ HZ8.out rfl (by rw [tcpart_size]; rfl) (by simp [Value.oneCell']) ?_); intro w9 HP9 hb9 hz9; refine Hid.out ?_))
        refine Lib.hid ?_
        have hl9 : Low wr w9 := Below.trans hl8 hb9
        have e0 := HP9.cell 0
        have e1 := HP9.cell 1
        replace e0 : _ = some (Value.int .i64 8) := e0
        replace e1 : _ = some (Value.func (.func 121) #[] #[]) := e1
        clear HZ8 hl8 hz8 hb9 hz9 d0 d1 HP9
        have HR9 := Lib.hid (show BlkS w9 w4.heap.size (segAt xs oA om oc os 3) ∧ BlkV w9 188 (w4.heap.size + 1) partsC ∧ Low w4 w9 from ⟨HR.out.1.below hl9 HR.out.1.lt, HR.out.2.1.below hl9 HR.out.2.1.lt, Low.trans HR.out.2.2 hl9⟩)
        clear hl9 HR
        go_wp2_with fail
        refine (part4_any (some ⟨b, o, none⟩) n c w4.heap.size xs (segAt xs oA om oc os 3) w9 hn (by omega) ((HB.out.below' hL4 hL4.size).below HR9.out.2.2) HR9.out.1).mono ?_
        rintro e w10 ⟨rfl, hS, hbT, hoth⟩
        have HR10 : Hid (BlkS w10 w4.heap.size (segAt xs oA om oc os 4) ∧ BlkV w10 188 (w4.heap.size + 1) partsC ∧ Low w4 w10) := Lib.hid ⟨hS, (hoth _ (by omega)).trans HR9.out.2.1, Below.trans HR9.out.2.2 hbT⟩
        clear hS hbT hoth HR9 e0 e1
        go_wp2_with fail
        go_roundw
        case rel => exact ⟨4, by omega, rfl, HR10⟩
        case measure => simp [intOf]
      · have d0 : wr.cell? ⟨w4.heap.size + 1, 8, none⟩ = some (.int .i64 13) := HR.out.2.1.cell 8
        have d1 : wr.cell? ⟨w4.heap.size + 1, 9, none⟩ = some (.func (.func 122) #[] #[]) := HR.out.2.1.cell 9
        go_wp2_with (first
          | ((with_reducible refine wpList_alloc_v rfl 188 rfl [.int .i64 0, .nilFunc] tcpart_zero ?_); intro w8 HZ8 hl8 hz8; replace HZ8 := Lib.hid HZ8)
          | ((refine wpList_store_v rfl 188 (.tmp 9) (.tmp 37) rfl wr.heap.size rfl [.int .i64 13, .func (.func 122) #[] #[]] rfl _ _ HZ8.out rfl (by rw [tcpart_size]; rfl) (by simp [Value.oneCell']) ?_); intro w9 HP9 hb9 hz9; refine Hid.out ?_))
        refine Lib.hid ?_
        have hl9 : Low wr w9 := Below.trans hl8 hb9
        have e0 := HP9.cell 0
        have e1 := HP9.cell 1
        replace e0 : _ = some (Value.int .i64 13) := e0
        replace e1 : _ = some (Value.func (.func 122) #[] #[]) := e1
        clear HZ8 hl8 hz8 hb9 hz9 d0 d1 HP9
        have HR9 := Lib.hid (show BlkS w9 w4.heap.size (segAt xs oA om oc os 4) ∧ BlkV w9 188 (w4.heap.size + 1) partsC ∧ Low w4 w9 from ⟨HR.out.1.below hl9 HR.out.1.lt, HR.out.2.1.below hl9 HR.out.2.1.lt, Low.trans HR.out.2.2 hl9⟩)
        clear hl9 HR
        go_wp2_with fail
        refine (part5_any (some ⟨b, o, none⟩) n c w4.heap.size xs (segAt xs oA om oc os 4) w9 hn (by omega) ((HB.out.below' hL4 hL4.size).below HR9.out.2.2) HR9.out.1).mono ?_
        rintro e w10 ⟨rfl, hS, hbT, hoth⟩
        have HR10 : Hid (BlkS w10 w4.heap.size (segAt xs oA om oc os 5) ∧ BlkV w10 188 (w4.heap.size + 1) partsC ∧ Low w4 w10) := Lib.hid ⟨hS, (hoth _ (by omega)).trans HR9.out.2.1, Below.trans HR9.out.2.2 hbT⟩
        clear hS hbT hoth HR9 e0 e1
        go_wp2_with fail
        go_roundw
        case rel => exact ⟨5, by omega, rfl, HR10⟩
        case measure => simp [intOf]
      · have d0 : wr.cell? ⟨w4.heap.size + 1, 10, none⟩ = some (.int .i64 14) := HR.out.2.1.cell 10
        have d1 : wr.cell? ⟨w4.heap.size + 1, 11, none⟩ = some (.func (.func 123) #[] #[]) := HR.out.2.1.cell 11
        go_wp2_with (first
          | ((with_reducible refine wpList_alloc_v rfl 188 rfl [.int .i64 0, .nilFunc] tcpart_zero ?_); intro w8 HZ8 hl8 hz8; replace HZ8 := Lib.hid HZ8)
          | ((refine wpList_store_v rfl 188 (.tmp 9) (.tmp 37) rfl wr.heap.size rfl [.int .i64 14, .func (.func 123) #[] #[]] rfl _ _ HZ8.out rfl (by rw [tcpart_size]; rfl) (by simp [Value.oneCell']) ?_); intro w9 HP9 hb9 hz9; refine Hid.out ?_))
        refine Lib.hid ?_
        have hl9 : Low wr w9 := Below.trans hl8 hb9
        have e0 := HP9.cell 0
        have e1 := HP9.cell 1
        replace e0 : _ = some (Value.int .i64 14) := e0
        replace e1 : _ = some (Value.func (.func 123) #[] #[]) := e1
        clear HZ8 hl8 hz8 hb9 hz9 d0 d1 HP9
        have HR9 := Lib.hid (show BlkS w9 w4.heap.size (segAt xs oA om oc os 5) ∧ BlkV w9 188 (w4.heap.size + 1) partsC ∧ Low w4 w9 from ⟨HR.out.1.below hl9 HR.out.1.lt, HR.out.2.1.below hl9 HR.out.2.1.lt, Low.trans HR.out.2.2 hl9⟩)
        clear hl9 HR
        go_wp2_with fail
        refine (part6_any (some ⟨b, o, none⟩) n c w4.heap.size xs (segAt xs oA om oc os 5) w9 hn (by omega) ((HB.out.below' hL4 hL4.size).below HR9.out.2.2) HR9.out.1).mono ?_
        rintro e w10 ⟨rfl, hS, hbT, hoth⟩
        have HR10 : Hid (BlkS w10 w4.heap.size (segAt xs oA om oc os 6) ∧ BlkV w10 188 (w4.heap.size + 1) partsC ∧ Low w4 w10) := Lib.hid ⟨hS, (hoth _ (by omega)).trans HR9.out.2.1, Below.trans HR9.out.2.2 hbT⟩
        clear hS hbT hoth HR9 e0 e1
        go_wp2_with fail
        go_roundw
        case rel => exact ⟨6, by omega, rfl, HR10⟩
        case measure => simp [intOf]
      · have d0 : wr.cell? ⟨w4.heap.size + 1, 12, none⟩ = some (.int .i64 16) := HR.out.2.1.cell 12
        have d1 : wr.cell? ⟨w4.heap.size + 1, 13, none⟩ = some (.func (.func 124) #[] #[]) := HR.out.2.1.cell 13
        go_wp2_with (first
          | ((with_reducible refine wpList_alloc_v rfl 188 rfl [.int .i64 0, .nilFunc] tcpart_zero ?_); intro w8 HZ8 hl8 hz8; replace HZ8 := Lib.hid HZ8)
          | ((refine wpList_store_v rfl 188 (.tmp 9) (.tmp 37) rfl wr.heap.size rfl [.int .i64 16, .func (.func 124) #[] #[]] rfl _ _ HZ8.out rfl (by rw [tcpart_size]; rfl) (by simp [Value.oneCell']) ?_); intro w9 HP9 hb9 hz9; refine Hid.out ?_))
        refine Lib.hid ?_
        have hl9 : Low wr w9 := Below.trans hl8 hb9
        have e0 := HP9.cell 0
        have e1 := HP9.cell 1
        replace e0 : _ = some (Value.int .i64 16) := e0
        replace e1 : _ = some (Value.func (.func 124) #[] #[]) := e1
        clear HZ8 hl8 hz8 hb9 hz9 d0 d1 HP9
        have HR9 := Lib.hid (show BlkS w9 w4.heap.size (segAt xs oA om oc os 6) ∧ BlkV w9 188 (w4.heap.size + 1) partsC ∧ Low w4 w9 from ⟨HR.out.1.below hl9 HR.out.1.lt, HR.out.2.1.below hl9 HR.out.2.1.lt, Low.trans HR.out.2.2 hl9⟩)
        clear hl9 HR
        go_wp2_with fail
        refine (part7_any (some ⟨b, o, none⟩) n c w4.heap.size xs (segAt xs oA om oc os 6) w9 hn (by omega) ((HB.out.below' hL4 hL4.size).below HR9.out.2.2) HR9.out.1).mono ?_
        rintro e w10 ⟨rfl, hS, hbT, hoth⟩
        have HR10 : Hid (BlkS w10 w4.heap.size (segAt xs oA om oc os 7) ∧ BlkV w10 188 (w4.heap.size + 1) partsC ∧ Low w4 w10) := Lib.hid ⟨hS, (hoth _ (by omega)).trans HR9.out.2.1, Below.trans HR9.out.2.2 hbT⟩
        clear hS hbT hoth HR9 e0 e1
        go_wp2_with fail
        go_roundw
        case rel => exact ⟨7, by omega, rfl, HR10⟩
        case measure => simp [intOf]
      · have d0 : wr.cell? ⟨w4.heap.size + 1, 14, none⟩ = some (.int .i64 18) := HR.out.2.1.cell 14
        have d1 : wr.cell? ⟨w4.heap.size + 1, 15, none⟩ = some (.func (.func 125) #[] #[]) := HR.out.2.1.cell 15
        go_wp2_with (first
          | ((with_reducible refine wpList_alloc_v rfl 188 rfl [.int .i64 0, .nilFunc] tcpart_zero ?_); intro w8 HZ8 hl8 hz8; replace HZ8 := Lib.hid HZ8)
          | ((refine wpList_store_v rfl 188 (.tmp 9) (.tmp 37) rfl wr.heap.size rfl [.int .i64 18, .func (.func 125) #[] #[]] rfl _ _ HZ8.out rfl (by rw [tcpart_size]; rfl) (by simp [Value.oneCell']) ?_); intro w9 HP9 hb9 hz9; refine Hid.out ?_))
        refine Lib.hid ?_
        have hl9 : Low wr w9 := Below.trans hl8 hb9
        have e0 := HP9.cell 0
        have e1 := HP9.cell 1
        replace e0 : _ = some (Value.int .i64 18) := e0
        replace e1 : _ = some (Value.func (.func 125) #[] #[]) := e1
        clear HZ8 hl8 hz8 hb9 hz9 d0 d1 HP9
        have HR9 := Lib.hid (show BlkS w9 w4.heap.size (segAt xs oA om oc os 7) ∧ BlkV w9 188 (w4.heap.size + 1) partsC ∧ Low w4 w9 from ⟨HR.out.1.below hl9 HR.out.1.lt, HR.out.2.1.below hl9 HR.out.2.1.lt, Low.trans HR.out.2.2 hl9⟩)
        clear hl9 HR
        go_wp2_with fail
        refine (part8_any (some ⟨b, o, none⟩) n c w4.heap.size xs (segAt xs oA om oc os 7) w9 hn (by omega) ((HB.out.below' hL4 hL4.size).below HR9.out.2.2) HR9.out.1).mono ?_
        rintro e w10 ⟨rfl, hS, hbT, hoth⟩
        have HR10 : Hid (BlkS w10 w4.heap.size (segAt xs oA om oc os 8) ∧ BlkV w10 188 (w4.heap.size + 1) partsC ∧ Low w4 w10) := Lib.hid ⟨hS, (hoth _ (by omega)).trans HR9.out.2.1, Below.trans HR9.out.2.2 hbT⟩
        clear hS hbT hoth HR9 e0 e1
        go_wp2_with fail
        go_roundw
        case rel => exact ⟨8, by omega, rfl, HR10⟩
        case measure => simp [intOf]
      · have hbs := HB.out.below' hL4 hL4.size
        have hbr := hbs.below' HR.out.2.2 HR.out.2.2.size
        have hdr : (xs.drop m).take (n - m) = xs.drop m := List.take_of_length_le (by rw [List.length_drop, HB.out.len]; omega)
        have HBR := Lib.hid hbr
        clear hbs hbr
        go_wp2_with fail
        refine (cut_yes (some ⟨b, o, none⟩) n c _ _ m (n - m) xs wr hn hc hc2 HBR.out rfl (by omega) (by omega)).mono ?_
        rintro e w11 ⟨v, rfl, g, rfl, hg, hkg, hlg, hag, hB11⟩
        rw [hdr] at hkg hlg hag
        have HS11 := Lib.hid (HR.out.1.below hB11 HR.out.1.lt)
        have hL11 : Low w4 w11 := Low.trans HR.out.2.2 hB11
        have hTg : w4.heap.size < g := Nat.lt_of_lt_of_le HR.out.1.lt hg
        have f9 := HS11.out.frozen 9
        have c9 := (BlkS.cells HS11.out).2.2.2.2.2.2.2.2.2
        have HKG := Lib.hid (Blk.far hkg (p := ⟨w4.heap.size, 9, none⟩) (by show g ≠ w4.heap.size; omega) (.slice (some ⟨g, 0, none⟩) (n - m) (n - m)))
        have HT9 : Hid (BlkS (w11.setCell ⟨w4.heap.size, 9, none⟩ (.slice (some ⟨g, 0, none⟩) (n - m) (n - m))) w4.heap.size ⟨num2 xs 0, num2 xs 2, num4 xs 4, num4 xs 8, xs.getD 13 0, num2 xs 14, num2 xs 16, num2 xs 18, oA, om, oc, os, some ⟨g, 0, none⟩, n - m, n - m, xs.drop m⟩) := Lib.hid (HS11.out.set_ 9 (.slice (some ⟨g, 0, none⟩) (n - m) (n - m)))
        have hL12 : Low w4 (w11.setCell ⟨w4.heap.size, 9, none⟩ (.slice (some ⟨g, 0, none⟩) (n - m) (n - m))) := hL11.setCell (Nat.le_refl _) _
        have HLG := Lib.hid hlg
        have HAG := Lib.hid hag
        clear hg hkg hlg hag hB11 HS11 hL11 HR HBR
        go_wp2_with (with_reducible refine wpList_load_seg rfl (.tmp 7) rfl w4.heap.size rfl _ HT9.out (Hid.out ?_))
        refine Lib.hid ?_
        clear f9 c9
        generalize w11.setCell ⟨w4.heap.size, 9, none⟩ (.slice (some ⟨g, 0, none⟩) (n - m) (n - m)) = w12 at *
        replace HZ := Lib.hid (HZ.out.below hL12 HZ.out.lt)
        go_wp2_with ((refine wpList_store_seg2 rfl (.tmp 2) (.tmp 56) rfl w.heap.size rfl ⟨num2 xs 0, num2 xs 2, num4 xs 4, num4 xs 8, xs.getD 13 0, num2 xs 14, num2 xs 16, num2 xs 18, oA, om, oc, os, some ⟨g, 0, none⟩, n - m, n - m, xs.drop m⟩ rfl zeroS HZ.out ?_); intro w13 HG hb13 hoth hz13)
        have hall := HB.out.all
        have n0 := tcnum2 hall 0
        have n2 := tcnum2 hall 2
        have n4 := tcnum4 hall 4
        have n8 := tcnum4 hall 8
        have n13 := hall.getD 13
        have n14 := tcnum2 hall 14
        have n16 := tcnum2 hall 16
        have n18 := tcnum2 hall 18
        have hos12 := (HOS.out.below' hL12 hL12.size).upper HOF.out (w' := w13) fun p h1 h2 => hoth p (by omega)
        have hpg := HKG.out.bs (B := w12.heap.size) HAG.out HKG.out.lt HLG.out
        have hpg13 : Bs w13 w12.heap.size (some ⟨g, 0, none⟩) (n - m) (xs.drop m) := ⟨hpg.len, hpg.all, fun h => by
          obtain ⟨b', o', e', hb', hc'⟩ := hpg.mem h
          injection e' with e'
          injection e' with e1 e2 _
          subst e1 e2
          refine ⟨_, _, rfl, hb', fun i hi => (hoth _ ?_).trans (hc' i hi)⟩
          show g ≠ w.heap.size
          have := hL4.size
          omega⟩
        rw [← hz13] at hos12 hpg13
        refine ret_seg Tryz.results109 rfl rfl HG (GivesSF.of HX.out ?_ ⟨?_, ?_, n4, n8, ?_, ?_, ?_, ?_, ?_, hos12, ?_, hpg13⟩ ?_ ⟨HOF.out.lessS (by have := hL4.size; omega), fun _ => ⟨g, 0, rfl, by have := hL4.size; omega⟩⟩) rfl
        · show Sb.mk _ _ _ _ _ _ _ _ (os.map Od.v) _ = _
          rw [HOV.out]
          rfl
        · unfold i64ok; dsimp only; omega
        · unfold i64ok; dsimp only; omega
        · unfold i64ok; dsimp only; omega
        · unfold i64ok; dsimp only; omega
        · unfold i64ok; dsimp only; omega
        · unfold i64ok; dsimp only; omega
        · dsimp only; omega
        · dsimp only; omega
        · exact Below.trans (Low.trans hL4 hL12) hb13
  · rw [if_neg hre] at HX
    clear hos hov hof
    generalize ol.length = om at *
    go_wp2_with ((refine wpList_store_seg rfl (.tmp 2) (.tmp 28) rfl w.heap.size rfl zeroS rfl zeroS HZ.out ?_); intro w5 HG hb5 hz5)
    exact ret_seg Tryz.results109 rfl rfl HG (GivesSF.of HX.out rfl (zeroS_ok _ _) (Below.trans hL4 hb5) (zeroS_from _)) rfl

theorem tcparse_anyF (A : Option Addr) (n c : Nat) (xs : List Int) (w : World) (hn0 : n ≤ 140737488351232) (hc : n ≤ c) (hc2 : c ≤ 9223372036854775807) (hb : Bs w w.heap.size A n xs) :
    Calls Tryz.prog 109 #[.slice A n c] w (GivesSF w (parseS xs)) := by
  by_cases h : (aheadS xs).2 = 0
  · exact tcparse_yes A n c xs w hn0 hc hc2 hb h
  · exact tcparse_err A n c xs w (by omega) hc hc2 hb h
theorem tcparse_any (A : Option Addr) (n c : Nat) (xs : List Int) (w : World) (hn0 : n ≤ 140737488351232) (hc : n ≤ c) (hc2 : c ≤ 9223372036854775807) (hb : Bs w w.heap.size A n xs) :
    Calls Tryz.prog 109 #[.slice A n c] w (GivesS w (parseS xs)) := (tcparse_anyF A n c xs w hn0 hc hc2 hb).mono fun _ _ h => h.weak
end Go.Proofs.YtjafjapnmffohaaGreatDoor

namespace Go.Proofs.YtjafjapnmffohaaGreatDoor
open Go.RowKit
set_option linter.unusedVariables false

theorem walkS_fork {P : Program} {ops : Array Oper} {Q : Exit → Act → World → Prop} {S : World → Prop} {i j : Nat} {p q : Plan} {a : Act} {w : World} (h1 : walkS P ops Q S (.act i p) a w) (h2 : walkS P ops Q S (.act j q) a w) : walkS P ops Q S (.fork i p j q) a w := ⟨h1, h2⟩
set_option maxHeartbeats 400000 in
theorem rftwo_any (A : Option Addr) (n c : Nat) (q : Int) (p : Nat) (xs : List Int) (w : World) (hn : n ≤ 140737488355328) (hb : Bs w w.heap.size A n xs) (hq : q = p) (h : p + 2 ≤ n) :
    Calls Tryz.prog 34 #[.slice A n c, .int .i64 q] w fun e w' => e = .returned (.int .i64 (num2 xs p)) ∧ ∃ k, w' = w.drewN k := by
  have HB := Lib.hid hb
  have HQ := Lib.hid hq
  clear hb hq
  go_enter Tryz.func34, Tryz.ntmps34
  go_wp2_with fail
  refine (r16_yes A n c q p xs w hn HB.out HQ.out h).mono ?_
  rintro e w1 ⟨rfl, k, rfl⟩
  obtain ⟨y, hy⟩ : ∃ y, y = num2 xs p := ⟨_, rfl⟩
  rw [← hy]
  have HY := Lib.hid hy
  clear hy h
  go_wp2_with fail
  go_ret
  exact ⟨by rw [← HY.out]; rfl, k, rfl⟩
set_option maxHeartbeats 400000 in
theorem rffour_any (A : Option Addr) (n c : Nat) (q : Int) (p : Nat) (xs : List Int) (w : World) (hn : n ≤ 140737488355328) (hb : Bs w w.heap.size A n xs) (hq : q = p) (h : p + 4 ≤ n) :
    Calls Tryz.prog 35 #[.slice A n c, .int .i64 q] w fun e w' => e = .returned (.int .u32 (num4 xs p)) ∧ ∃ k, w' = w.drewN k := by
  have HB := Lib.hid hb
  have HQ := Lib.hid hq
  clear hb hq
  go_enter Tryz.func35, Tryz.ntmps35
  go_wp2_with fail
  refine (r32_yes A n c q p xs w hn HB.out HQ.out h).mono ?_
  rintro e w1 ⟨rfl, k, rfl⟩
  obtain ⟨y, hy⟩ : ∃ y, y = num4 xs p := ⟨_, rfl⟩
  rw [← hy]
  have HY := Lib.hid hy
  clear hy h
  go_wp2_with fail
  go_ret
  exact ⟨by rw [← HY.out]; rfl, k, rfl⟩

set_option maxRecDepth 100000 in
set_option maxHeartbeats 1600000 in
theorem trcparse_err (A : Option Addr) (n c : Nat) (xs : List Int) (w : World) (hn : n ≤ 140737488355328) (hc : n ≤ c) (hc2 : c ≤ 9223372036854775807) (hb : Bs w w.heap.size A n xs) (h : (aheadS xs).2 ≠ 0) :
    Calls Tryz.prog 18 #[.slice A n c] w (GivesSF w (parseS xs)) := by
  have hX : parseS xs = (zeroSb, (aheadS xs).2) := by unfold parseS; rw [if_neg h]
  have hl := hb.len
  by_cases h20 : n < 20
  · have HX := Lib.hid (show parseS xs = (zeroSb, 3) by rw [hX]; unfold aheadS; rw [if_pos (by omega)])
    clear hb h hX
    go_enter Tryz.func18, Tryz.ntmps18
    go_wp2_with ((with_reducible refine wpList_alloc_seg rfl rfl ?_); intro w1 HZ hL hz1; refine Hid.out ?_)
    refine Lib.hid ?_
    replace HZ := Lib.hid HZ
    go_wp2_with ((refine wpList_store_seg rfl (.tmp 2) (.tmp 10) rfl w.heap.size rfl zeroS rfl zeroS HZ.out ?_); intro w4 HG hb4 hz4)
    exact ret_seg Tryz.results18 rfl rfl HG (GivesSF.of HX.out rfl (zeroS_ok _ _) (Below.trans hL hb4) (zeroS_from _)) rfl
  · obtain ⟨b, o, rfl, hbl, hcc⟩ := hb.mem (by omega)
    have c12 := hcc 12 (by omega)
    have hr := hb.nonneg 12
    have n12 : (12 : Int) < n := by omega
    have hA : aheadS xs = if xs.getD 12 0 % 16 ≠ 0 ∨ xs.getD 12 0 / 16 < 5 then (0, 5) else if (n : Int) < 4 * (xs.getD 12 0 / 16) then (0, 3) else ((4 * (xs.getD 12 0 / 16)).toNat, 0) := by rw [← hl]; unfold aheadS; rw [if_neg (by omega)]
    rw [hA] at h hX
    clear hcc hb hl hA
    generalize xs.getD 12 0 = x at *
    have hq1 : 0 ≤ x / 16 ∧ x / 16 < 16 := by omega
    have hq2 : 0 ≤ x % 16 ∧ x % 16 < 16 := by omega
    by_cases hf : x % 16 = 0
    · have hfb : (x % 16 != 0) = false := by simpa using hf
      by_cases h5 : x / 16 < 5
      · rw [if_pos (Or.inr h5)] at hX
        have HX := Lib.hid hX
        clear hX h
        go_enter Tryz.func18, Tryz.ntmps18
        go_wp2_with ((with_reducible refine wpList_alloc_seg rfl rfl ?_); intro w1 HZ hL hz1; refine Hid.out ?_)
        refine Lib.hid ?_
        replace HZ := Lib.hid HZ
        replace c12 := (hL.cell (p := ⟨b, o + 12, none⟩) hbl).trans c12
        go_wp2_with ((refine wpList_store_seg rfl (.tmp 2) (.tmp 23) rfl w.heap.size rfl zeroS rfl zeroS HZ.out ?_); intro w4 HG hb4 hz4)
        exact ret_seg Tryz.results18 rfl rfl HG (GivesSF.of HX.out rfl (zeroS_ok _ _) (Below.trans hL hb4) (zeroS_from _)) rfl
      · rw [if_neg (fun h => h.elim (fun h => h hf) h5)] at hX h
        by_cases hs : (n : Int) < 4 * (x / 16)
        · rw [if_pos hs] at hX
          have HX := Lib.hid hX
          have hs' : (n : Int) < x / 16 * 4 := by omega
          clear hX h hs
          go_enter Tryz.func18, Tryz.ntmps18
          go_wp2_with ((with_reducible refine wpList_alloc_seg rfl rfl ?_); intro w1 HZ hL hz1; refine Hid.out ?_)
          refine Lib.hid ?_
          replace HZ := Lib.hid HZ
          replace c12 := (hL.cell (p := ⟨b, o + 12, none⟩) hbl).trans c12
          go_wp2_with ((refine wpList_store_seg rfl (.tmp 2) (.tmp 34) rfl w.heap.size rfl zeroS rfl zeroS HZ.out ?_); intro w4 HG hb4 hz4)
          exact ret_seg Tryz.results18 rfl rfl HG (GivesSF.of HX.out rfl (zeroS_ok _ _) (Below.trans hL hb4) (zeroS_from _)) rfl
        · rw [if_neg hs] at h
          exact absurd rfl h
    · have hfb : (x % 16 != 0) = true := by simpa using hf
      rw [if_pos (Or.inl hf)] at hX
      have HX := Lib.hid hX
      clear hX h
      go_enter Tryz.func18, Tryz.ntmps18
      go_wp2_with ((with_reducible refine wpList_alloc_seg rfl rfl ?_); intro w1 HZ hL hz1; refine Hid.out ?_)
      refine Lib.hid ?_
      replace HZ := Lib.hid HZ
      replace c12 := (hL.cell (p := ⟨b, o + 12, none⟩) hbl).trans c12
      go_wp2_with ((refine wpList_store_seg rfl (.tmp 2) (.tmp 23) rfl w.heap.size rfl zeroS rfl zeroS HZ.out ?_); intro w4 HG hb4 hz4)
      exact ret_seg Tryz.results18 rfl rfl HG (GivesSF.of HX.out rfl (zeroS_ok _ _) (Below.trans hL hb4) (zeroS_from _)) rfl
end Go.Proofs.YtjafjapnmffohaaGreatDoor
