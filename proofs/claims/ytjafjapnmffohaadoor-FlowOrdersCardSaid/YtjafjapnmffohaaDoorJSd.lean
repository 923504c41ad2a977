/- Texts joined.
  What strconv.Itoa and strconv.FormatUint at base 10 tell. Condition: the library's table of powers of ten holds what its text lays.
  What sid.word and sid.Text tell. Condition: the library's table of powers of ten holds what its text lays.
  What the document's own digits, Digits, Word and Text tell of segments. No condition beyond the arguments' types.
  What the first eight bytes, Make and Node tell. No condition beyond the arguments' types.
  What sid.Node and the document's own Node tell, over whatever Make of both. No condition beyond the arguments' types.
  What the document's own Make and Node of segments tell. No condition beyond the arguments' types.
  Segments of our own in memory, and what sid.Split and Is tell. Condition: an address is 16 bytes.
  What sid.Is tells. Condition: an address is 16 bytes.
  What the document's own Split and Is tell. Condition: an address is 16 bytes.
  What the laws' own small test of segments answers: true. Condition: the library's table of powers of ten holds what its text lays.
-/
import Derived.Test.YtjafjapnmffohaaDoorVals
import Derived.Test.YtjafjapnmffohaaDoorShelf
import Derived.Lib.SmallJoins
import Derived.Lib.ItoaLen
set_option maxRecDepth 100000
namespace Go.Proofs.YtjafjapnmffohaaDoor
open Go.RowKit Go.Sort Go.Lib
set_option linter.unusedVariables false

/-- what of the library's variables is read: the powers of ten -/
def Pow10 (w : World) : Prop := Lib.TabIs Tryd.prog w "internal/strconv.uint64pow10" .u64 Lib.pow10Tab
theorem Pow10.low {w w' : World} (h : Pow10 w) (hb : Below w.heap.size w w') : Pow10 w' := Joins.tab_stays (g := 0) (by kernel_rfl) h hb (Nat.le_refl _)
theorem low_grow (w : World) (k : Nat) (os : Array Obj) : Below w.heap.size w (grow (w.drewN k) os) :=
  ⟨rfl, rfl, rfl, by simp [grow], fun j hj => by simp [grow, Array.getElem?_append, hj]⟩

/-- a decimal numeral -/
theorem itoa_any (n : Int) (w : World) (h : i64ok n) (hp : Pow10 w) :
    Calls Tryd.prog 30 #[.int .i64 n] w fun e w' => e = .returned (.string ⟨(Lib.itoa n).toArray⟩) ∧ Below w.heap.size w w' := by
  unfold i64ok at h
  refine (Tryd.strconv_Itoa n h.1 h.2 w hp).mono ?_
  rintro e w' ⟨rfl, k, os, rfl⟩
  exact ⟨rfl, low_grow w k os⟩

theorem zeros0_row (w : World) (T : TypeId) (nd : Nat) (hs : nd ≤ 24) : Holds (fun (b : UInt8) => Value.int .u8 (b.toNat : Int)) (w.alloc (.cells zeros24 T)) w.heap.size 0 (Array.replicate nd (0 : UInt8)) := fun j hj => by
  have hj' : j < nd := by simpa using hj
  refine ⟨?_, World.frozen?_alloc_new _ _ _ _⟩
  rw [World.cell?_alloc_new, zeros24_at _ (by omega), getElem!_pos _ j hj]
  simp
theorem low_put0 (w : World) (o : Obj) (dk : Array UInt8) (k : Nat) : Below w.heap.size w ((putRow (fun (b : UInt8) => Value.int .u8 (b.toNat : Int)) (w.alloc o) w.heap.size 0 dk).drewN k) := by
  rw [alloc_eq_grow]
  obtain ⟨os', _, e⟩ := putRow_grow_new (fun (b : UInt8) => Value.int .u8 (b.toNat : Int)) w #[o] w.heap.size 0 dk (Nat.le_refl _)
  rw [e]
  exact low_grow w k os'
theorem run_cut24 (g n : Nat) (hn : n ≤ 24) (u : World) : (Instr.sliceAt 86 (.pointer (some ⟨g, 0, none⟩)) none (some (.int .i64 (n : Int))) none).run Tryd.prog u = .ok (.slice (some ⟨g, 0, none⟩) n 24) u := by
  obtain ⟨i, hi, hz⟩ := info_sized size_u8
  rw [run_sliceAt_array_h (P := Tryd.prog) u 86 ⟨g, 0, none⟩ Tryd.underlying86 .i64 n (by omega) (by show (n : Int) ≤ ((24 : Nat) : Int); omega)]
  have hs : (sizeOf (Tryd.prog.elem 86)).run Tryd.prog u = .ok 1 u := by
    show (sizeOf 5).run Tryd.prog u = .ok 1 u
    simp [sizeOf, typeInfo, hi, hz]
  rw [hs, Result.andThen_ok]
  show Result.ok (slicedAt ⟨g, 0, none⟩ 0 (n : Int).toNat 24 1) u = _
  unfold slicedAt
  rw [Int.toNat_natCast, if_neg (by omega), Nat.zero_mul, Addr.add_lit]
  rfl

end Go.Proofs.YtjafjapnmffohaaDoor

namespace Go.Proofs.YtjafjapnmffohaaDoor
open Go.RowKit
set_option linter.unusedVariables false

/-- bytes as a string -/
def strD (l : List UInt8) : ByteArray := ⟨l.toArray⟩
theorem strD_append (l m : List UInt8) : strD l ++ strD m = strD (l ++ m) := by
  apply ByteArray.ext
  rw [ByteArray.data_append]
  simp [strD]
/-- what a node is to do, as text -/
def wordD (d : Int) : List UInt8 :=
  if d = 0 then [101, 110, 100] else if d = 1 then [119, 105, 116, 110, 101, 115, 115] else if d = 2 then [100, 101, 99, 105, 100, 101] else if d = 3 then [108, 97, 115, 116]
  else if d = 4 then [114, 101, 99, 111, 118, 101, 114] else if d = 5 then [115, 116, 101, 101, 114] else if d = 6 then [108, 101, 97, 114, 110] else Lib.itoa d
theorem wordD_else (d : Int) (h : d < 0 ∨ 7 ≤ d) : wordD d = Lib.itoa d := by
  unfold wordD
  rw [if_neg (by omega), if_neg (by omega), if_neg (by omega), if_neg (by omega), if_neg (by omega), if_neg (by omega), if_neg (by omega)]
/-- a segment's text -/
def textD (n d a : Int) : List UInt8 := Lib.itoa n ++ [46] ++ wordD d ++ [46] ++ Lib.decDigits a.toNat

/-- a segment by value -/
def sidV (n d a : Int) : Value := .agg #[.int .i64 n, .int .i64 d, .int .u32 a]

theorem strD_size (l : List UInt8) : (strD l).size = l.length := by simp [strD, ByteArray.size]
theorem wordD_size (d : Int) (h : i64ok d) : (wordD d).length ≤ 21 := by
  unfold i64ok at h
  have := Lib.itoa_length_le d h.1 h.2
  unfold wordD
  split
  · decide
  split
  · decide
  split
  · decide
  split
  · decide
  split
  · decide
  split
  · decide
  split
  · decide
  exact this
theorem decD_size (u : Nat) (h : u < 18446744073709551616) : (Lib.decDigits u).length ≤ 20 := by rw [Lib.decDigits_length]; exact Lib.nDigits_le20 u h
theorem textD_eq (n d : Int) (u : Nat) : strD (Lib.itoa n) ++ strD [46] ++ strD (wordD d) ++ strD [46] ++ strD (Lib.decDigits u) = strD (textD n d u) := by
  unfold textD
  rw [← strD_append, ← strD_append, ← strD_append, ← strD_append]
  rfl
theorem sum_size (s t : ByteArray) (a b c : Nat) (h : s.size ≤ a) (k : t.size ≤ b) (hc : a + b = c) : (s ++ t).size ≤ c := by rw [ByteArray.size_append]; omega
/-- strings of few bytes are joined -/
theorem exec_cat {f : Operand → Value} {dd : Option Tmp} {x y : Operand} {ty : TypeId} {pos : String} {gd : Option (Nat × Bool)} (s t : ByteArray) (a b c : Nat) (hs : s.size ≤ a) (ht : t.size ≤ b) (hc : a + b = c) (h : c ≤ 1000) (hx : f x = .string s) (hy : f y = .string t) (w : World) :
    (execOp f ⟨dd, .binOp .add 9 x y 9, ty, pos, #[], gd⟩).run Tryd.prog w = .ok (.value (.string (s ++ t))) w := by
  have hd : ¬ 9223372036854775807 < s.size + t.size := by omega
  go_simp

end Go.Proofs.YtjafjapnmffohaaDoor

namespace Go.Proofs.YtjafjapnmffohaaDoor
open Go.RowKit
set_option linter.unusedVariables false

theorem strD_one (u : Nat) (h : u < 10) : strOfNums [((48 + u : Nat) : Int)] = strD (Lib.decDigits u) := by
  rw [Lib.decDigits_one h]
  have k : ∀ n : Fin 10, (strOfNums [((48 + n.val : Nat) : Int)]).data = (strD [UInt8.ofNat (48 + n.val)]).data := by decide
  exact ByteArray.ext (k ⟨u, h⟩)
theorem strD_more (u : Nat) (h : ¬ u < 10) : strD (Lib.decDigits (u / 10)) ++ strD (Lib.decDigits (u % 10)) = strD (Lib.decDigits u) := by
  rw [strD_append, Lib.decDigits_one (show u % 10 < 10 by omega)]
  conv => rhs; rw [Lib.decDigits, dif_neg h]

set_option maxRecDepth 100000 in
set_option maxHeartbeats 1600000 in
theorem rdig_small (u : Nat) (w : World) (hu : u < 10) :
    Calls Tryd.prog 34 #[.int .u64 u] w fun e w' => e = .returned (.string (strD (Lib.decDigits u))) ∧ Below w.heap.size w w' := by
  have d0 : decide ((u : Int) < 10) = true := by simp; omega
  have w1 : IntKind.u64.wrap (48 + (u : Int)) = ((48 + u : Nat) : Int) := by rw [IntKind.wrap_u64]; omega
  have w2 : IntKind.u8.wrap ((48 + u : Nat) : Int) = ((48 + u : Nat) : Int) := by rw [IntKind.wrap_u8]; omega
  have HX := Lib.hid (strD_one u hu)
  have hcv : (convert 26 9 (.slice (some ⟨w.heap.size, 0, none⟩) 1 1)).run Tryd.prog (w.alloc (.cells #[.int .u8 (48 + (u : Int))] 5)) = .ok (.string (strD (Lib.decDigits u))) (w.alloc (.cells #[.int .u8 (48 + (u : Int))] 5)) := by
    rw [← HX.out]
    exact conv_blk (Blk.new w 5 [((48 + u : Nat) : Int)]) rfl
  go_enter Tryd.func34, Tryd.ntmps34
  go_wp2_with fail
  go_ret
  exact ⟨rfl, Low.alloc w _⟩

set_option maxRecDepth 100000 in
set_option maxHeartbeats 1600000 in
theorem rdig_any (f : Nat) : ∀ (u : Nat) (w : World), u ≤ f → u < 18446744073709551616 →
    Calls Tryd.prog 34 #[.int .u64 u] w fun e w' => e = .returned (.string (strD (Lib.decDigits u))) ∧ Below w.heap.size w w' := by
  induction f with
  | zero => intro u w h _; exact rdig_small u w (by omega)
  | succ f ih =>
    intro u w hf hu
    by_cases hs : u < 10
    · exact rdig_small u w hs
    · have hs' : ¬ (u : Int) < 10 := by omega
      have HM := Lib.hid (strD_more u hs)
      have HF := Lib.hid hf
      clear hf hs
      go_enter Tryd.func34, Tryd.ntmps34
      go_wp2_with fail
      refine (ih (u / 10) w (by have := HF.out; omega) (by omega)).mono ?_
      rintro e w1 ⟨rfl, hl1⟩
      go_wp2_with fail
      refine (rdig_small (u % 10) w1 (by omega)).mono ?_
      rintro e w2 ⟨rfl, hl2⟩
      have hz : ¬ 9223372036854775807 < (strD (Lib.decDigits (u / 10))).size + (strD (Lib.decDigits (u % 10))).size := by
        rw [strD_size, strD_size]
        have := decD_size (u / 10) (by omega)
        have := decD_size (u % 10) (by omega)
        omega
      go_wp2_with fail
      go_ret
      exact ⟨by rw [← HM.out]; rfl, Low.trans hl1 hl2⟩
theorem rdig_u (u : Nat) (w : World) (h : u < 18446744073709551616) :
    Calls Tryd.prog 34 #[.int .u64 u] w fun e w' => e = .returned (.string (strD (Lib.decDigits u))) ∧ Below w.heap.size w w' := rdig_any u u w (Nat.le_refl _) h

theorem strD_neg (u : Nat) (h : 1 ≤ u) : strD [45] ++ strD (Lib.decDigits u) = strD (Lib.itoa (-(u : Int))) := by rw [strD_append, Lib.itoa_neg u h]; rfl
set_option maxRecDepth 100000 in
set_option maxHeartbeats 1600000 in
theorem rDigits_any (n : Int) (w : World) (h : i64ok n) :
    Calls Tryd.prog 23 #[.int .i64 n] w fun e w' => e = .returned (.string (strD (Lib.itoa n))) ∧ Below w.heap.size w w' := by
  unfold i64ok at h
  by_cases h0 : n < 0
  · obtain ⟨u, rfl⟩ : ∃ u : Nat, n = -(u : Int) := ⟨n.natAbs, by omega⟩
    have q1 : IntKind.i64.wrap (-(u : Int) + 1) = -(u : Int) + 1 := by rw [IntKind.wrap_i64]; omega
    have q2 : IntKind.i64.wrap (-(-(u : Int) + 1)) = (u : Int) - 1 := by rw [IntKind.wrap_i64]; omega
    have q3 : IntKind.u64.wrap ((u : Int) - 1) = (u : Int) - 1 := by rw [IntKind.wrap_u64]; omega
    have q4 : IntKind.u64.wrap ((u : Int) - 1 + 1) = u := by rw [IntKind.wrap_u64]; omega
    have HN := Lib.hid (strD_neg u (by omega))
    have hz : ¬ 9223372036854775807 < 1 + (strD (Lib.decDigits u)).size := by rw [strD_size]; have := decD_size u (by omega); omega
    have HU := Lib.hid (show u < 18446744073709551616 by omega)
    have h0' : decide (-(u : Int) < 0) = true := by simp; omega
    go_enter Tryd.func23, Tryd.ntmps23
    go_wp2_with fail
    refine (rdig_u u w HU.out).mono ?_
    rintro e w1 ⟨rfl, hl1⟩
    go_wp2_with fail
    go_ret
    exact ⟨by rw [← HN.out]; rfl, hl1⟩
  · obtain ⟨u, rfl⟩ : ∃ u : Nat, n = (u : Int) := ⟨n.toNat, by omega⟩
    have q1 : IntKind.u64.wrap (u : Int) = u := by rw [IntKind.wrap_u64]; omega
    have HN := Lib.hid (Lib.itoa_nonneg u)
    have HU := Lib.hid (show u < 18446744073709551616 by omega)
    go_enter Tryd.func23, Tryd.ntmps23
    go_wp2_with fail
    refine (rdig_u u w HU.out).mono ?_
    rintro e w1 ⟨rfl, hl1⟩
    go_wp2_with fail
    go_ret
    exact ⟨by rw [HN.out]; rfl, hl1⟩

end Go.Proofs.YtjafjapnmffohaaDoor

namespace Go.Proofs.YtjafjapnmffohaaDoor
open Go.RowKit
set_option linter.unusedVariables false

/-- can a segment be? its address, else the zero one; the error's number -/
def canD (n d : Int) : Bool := decide (0 ≤ n ∧ n ≤ 65535 ∧ 0 ≤ d ∧ d ≤ 255)
def head8D : List Int := [253, 108, 0, 98, 0, 0, 0, 0]
def laidD (n d a : Int) : List Int := head8D ++ two n ++ [d, 0] ++ four a
def makeD (n d a : Int) : List Int := if canD n d = true then laidD n d a else zero16
def errD (n d : Int) : Int := if canD n d = true then 0 else 2
theorem head8D_all : AllB head8D := fun x hx => by
  have : x = 253 ∨ x = 108 ∨ x = 0 ∨ x = 98 := by simp [head8D] at hx; omega
  omega
theorem laidD_len (n d a : Int) : (laidD n d a).length = 16 := rfl
theorem makeD_len (n d a : Int) : (makeD n d a).length = 16 := by unfold makeD; split <;> rfl
theorem laidD_all (n d a : Int) (hd : 0 ≤ d ∧ d < 256) (ha : 0 ≤ a ∧ a < 4294967296) : AllB (laidD n d a) :=
  ((head8D_all.append (two_all n)).append (.cons hd.1 hd.2 (.cons (by omega) (by omega) .nil))).append (four_all a ha)
theorem makeD_all (n d a : Int) (ha : 0 ≤ a ∧ a < 4294967296) : AllB (makeD n d a) := by
  unfold makeD
  split
  · rename_i h
    have := of_decide_eq_true h
    exact laidD_all n d a (by omega) ha
  · exact zero_all

theorem ret_addrD {fn : Func} {p q : Tmp} {R : Ending → World → Prop} {tmps : Array Value} {df : List Deferred} {w : World} {g : Nat} {t : TypeId} {s : List Int} {b : Value} (hfn : fn.results = #[.cell p 23, .tmp q]) (hp : tmps.getD p undef = .pointer (some ⟨g, 0, none⟩)) (hq : tmps.getD q undef = b)
    (hb : Blk w t g s) (hs : s.length = 16) (hR : R (.returned (.tuple #[addrV s, b])) w) (hd : df = []) : bodyPost Tryd.prog fn R .ret ⟨tmps, df⟩ w :=
  bodyPost_ret (results_cell_tmp hfn tmps w g _ _ _ _ _ hp hq hb Tryd.underlying23 rfl (by rw [addr_size]; simp [cellsB_length, hs])) hd hR
theorem ret_addr1D {fn : Func} {p : Tmp} {R : Ending → World → Prop} {tmps : Array Value} {df : List Deferred} {w : World} {g : Nat} {t : TypeId} {s : List Int} (hfn : fn.results = #[.cell p 23]) (hp : tmps.getD p undef = .pointer (some ⟨g, 0, none⟩))
    (hb : Blk w t g s) (hs : s.length = 16) (hR : R (.returned (addrV s)) w) (hd : df = []) : bodyPost Tryd.prog fn R .ret ⟨tmps, df⟩ w :=
  bodyPost_ret (v := .agg (cellsB s).toArray) (results_cell_row hfn _ _ g _ _ _ _ hp hb Tryd.underlying23 rfl (by rw [addr_size]; simp [cellsB_length, hs])) hd hR
theorem addr_zeroD : (Tryd.prog.info? 23).map (·.zero) = some (some (.agg (cellsB zero16).toArray)) := by kernel_rfl

theorem run_sixteenD (b o : Nat) (u : World) : (Instr.arrayAt 23 (.slice (some ⟨b, o, none⟩) 16 16)).run Tryd.prog u = .ok (.pointer (some ⟨b, o, none⟩)) u := by kernel_rfl
end Go.Proofs.YtjafjapnmffohaaDoor

namespace Go.Proofs.YtjafjapnmffohaaDoor
open Go.RowKit
set_option linter.unusedVariables false

end Go.Proofs.YtjafjapnmffohaaDoor

namespace Go.Proofs.YtjafjapnmffohaaDoor
open Go.RowKit
set_option linter.unusedVariables false

/-- the bytes so far, k of the last four -/
def rowD (n d a : Int) (k : Nat) : List Int := head8D ++ two n ++ [d, 0] ++ (four a).take k ++ zero16.take (4 - k)
theorem cell_farD {w : World} {p q : Addr} {v : Value} (h : w.cell? p = some v) (hn : p.block ≠ q.block) (u : Value) : (w.setCell q u).cell? p = some v := by
  rw [World.cell?_setCell_other _ _ _ _ (fun e => hn (by rw [e]))]
  exact h

end Go.Proofs.YtjafjapnmffohaaDoor

namespace Go.Proofs.YtjafjapnmffohaaDoor
open Go.RowKit
set_option linter.unusedVariables false

/-- a segment: its node, what it is to do, its number -/
structure Sd where
  n : Int
  d : Int
  a : Int
def sdC (x : Sd) : List Value := [.int .i64 x.n, .int .i64 x.d, .int .u32 x.a]
def zeroSd : Sd := ⟨0, 0, 0⟩
theorem sdC_one (x : Sd) : (sdC x).toArray.all (·.oneCell') = true := by simp [sdC, Value.oneCell']
section
variable {ops : Array Oper} {rest : List Oper} {o : Oper} {a : Act} {w : World} {Q : Exit → Act → World → Prop}
theorem wpList_box_ad {s : List Int} (hgd : o.guard = none) (x : Operand) (ho : o.op = .box 23 x) (hx : a.eval x = .agg (cellsB s).toArray)
    (hk : ∀ w', Blk w' 23 w.heap.size s → Low w w' → w'.heap.size = w.heap.size + 1 → wpList Tryd.prog ops Q rest (a.put o.dst (.pointer (some ⟨w.heap.size, 0, none⟩))) w') : wpList Tryd.prog ops Q (o :: rest) a w :=
  wpList_box_v hgd 23 x ho (cellsB s) hx hk
end
/-- segments are compared -/
def eqD (a b : Sd) : Bool := a.n == b.n && a.d == b.d && a.a == b.a
theorem eqD_refl (a : Sd) : eqD a a = true := by simp [eqD]
/-- the segment whose bytes these may be; are they? what is told -/
def sdOf (s : List Int) : Sd := ⟨num2 s 8, s.getD 10 0, num4 s 12⟩
def backD (s : List Int) : List Int := laidD (num2 s 8) (s.getD 10 0) (num4 s 12)
def isD (s : List Int) : Bool := backD s == s
def splitD (s : List Int) : Sd := if isD s = true then sdOf s else zeroSd
theorem sdOf_can (s : List Int) (vs : AllB s) : canD (num2 s 8) (s.getD 10 0) = true := by
  have := vs.getD 8
  have := vs.getD (8 + 1)
  have := vs.getD 10
  unfold canD num2
  rw [decide_eq_true]
  omega
theorem sdOf_arg (s : List Int) (vs : AllB s) : 0 ≤ num4 s 12 ∧ num4 s 12 < 4294967296 := by
  have := vs.getD 12
  have := vs.getD (12 + 1)
  have := vs.getD (12 + 2)
  have := vs.getD (12 + 3)
  unfold num4
  omega
theorem neq_list {s d : List Int} : (s == d) = false ↔ s ≠ d := by simp

end Go.Proofs.YtjafjapnmffohaaDoor

namespace Go.Proofs.YtjafjapnmffohaaDoor
open Go.RowKit
set_option linter.unusedVariables false

/-- is it a segment of that node, to do that? -/
def isB (s : List Int) (n d : Int) : Bool := isD s && ((splitD s).n == n && (splitD s).d == d)

end Go.Proofs.YtjafjapnmffohaaDoor

namespace Go.Proofs.YtjafjapnmffohaaDoor
open Go.RowKit
set_option linter.unusedVariables false

/-- what bytes are a segment's, one by one -/
theorem isD_eq (s : List Int) (hs : s.length = 16) (vs : AllB s) : isD s = (s.getD 0 0 == 253 && s.getD 1 0 == 108 && s.getD 2 0 == 0 && s.getD 3 0 == 98 && s.getD 4 0 == 0 && s.getD 5 0 == 0 && s.getD 6 0 == 0 && s.getD 7 0 == 0 && s.getD 11 0 == 0) := by
  have b8 := vs.getD 8
  have b9 := vs.getD 9
  have b12 := vs.getD 12
  have b13 := vs.getD 13
  have b14 := vs.getD 14
  have b15 := vs.getD 15
  obtain ⟨x0, x1, x2, x3, x4, x5, x6, x7, x8, x9, x10, x11, x12, x13, x14, x15, rfl⟩ : ∃ x0 x1 x2 x3 x4 x5 x6 x7 x8 x9 x10 x11 x12 x13 x14 x15 : Int, s = [x0, x1, x2, x3, x4, x5, x6, x7, x8, x9, x10, x11, x12, x13, x14, x15] := by
    refine ⟨s.getD 0 0, s.getD 1 0, s.getD 2 0, s.getD 3 0, s.getD 4 0, s.getD 5 0, s.getD 6 0, s.getD 7 0, s.getD 8 0, s.getD 9 0, s.getD 10 0, s.getD 11 0, s.getD 12 0, s.getD 13 0, s.getD 14 0, s.getD 15 0, ?_⟩
    apply List.ext_getElem
    · rw [hs]; rfl
    · intro i h1 h2
      have hi : i < 16 := by omega
      have e : s[i] = s.getD i 0 := by simp [List.getD, h1]
      rw [e]
      have k : i = 0 ∨ i = 1 ∨ i = 2 ∨ i = 3 ∨ i = 4 ∨ i = 5 ∨ i = 6 ∨ i = 7 ∨ i = 8 ∨ i = 9 ∨ i = 10 ∨ i = 11 ∨ i = 12 ∨ i = 13 ∨ i = 14 ∨ i = 15 := by omega
      rcases k with rfl | rfl | rfl | rfl | rfl | rfl | rfl | rfl | rfl | rfl | rfl | rfl | rfl | rfl | rfl | rfl <;> rfl
  replace b8 : 0 ≤ x8 ∧ x8 < 256 := b8
  replace b9 : 0 ≤ x9 ∧ x9 < 256 := b9
  replace b12 : 0 ≤ x12 ∧ x12 < 256 := b12
  replace b13 : 0 ≤ x13 ∧ x13 < 256 := b13
  replace b14 : 0 ≤ x14 ∧ x14 < 256 := b14
  replace b15 : 0 ≤ x15 ∧ x15 < 256 := b15
  have e : backD [x0, x1, x2, x3, x4, x5, x6, x7, x8, x9, x10, x11, x12, x13, x14, x15] = [253, 108, 0, 98, 0, 0, 0, 0, x8, x9, x10, 0, x12, x13, x14, x15] := by
    show [253, 108, 0, 98, 0, 0, 0, 0, (x8 * 256 + x9) / 256 % 256, (x8 * 256 + x9) % 256, x10, 0, (x12 * 16777216 + x13 * 65536 + x14 * 256 + x15) / 16777216, (x12 * 16777216 + x13 * 65536 + x14 * 256 + x15) / 65536 % 256, (x12 * 16777216 + x13 * 65536 + x14 * 256 + x15) / 256 % 256, (x12 * 16777216 + x13 * 65536 + x14 * 256 + x15) % 256] = _
    rw [show (x8 * 256 + x9) / 256 % 256 = x8 by omega, show (x8 * 256 + x9) % 256 = x9 by omega, show (x12 * 16777216 + x13 * 65536 + x14 * 256 + x15) / 16777216 = x12 by omega, show (x12 * 16777216 + x13 * 65536 + x14 * 256 + x15) / 65536 % 256 = x13 by omega, show (x12 * 16777216 + x13 * 65536 + x14 * 256 + x15) / 256 % 256 = x14 by omega, show (x12 * 16777216 + x13 * 65536 + x14 * 256 + x15) % 256 = x15 by omega]
  unfold isD
  rw [e, Bool.eq_iff_iff]
  simp only [beq_iff_eq, Bool.and_eq_true, List.cons.injEq, and_true, true_and, List.getD_cons_zero, List.getD_cons_succ]
  constructor
  · rintro ⟨h0, h1, h2, h3, h4, h5, h6, h7, h11⟩
    exact ⟨⟨⟨⟨⟨⟨⟨⟨h0.symm, h1.symm⟩, h2.symm⟩, h3.symm⟩, h4.symm⟩, h5.symm⟩, h6.symm⟩, h7.symm⟩, h11.symm⟩
  · rintro ⟨⟨⟨⟨⟨⟨⟨⟨h0, h1⟩, h2⟩, h3⟩, h4⟩, h5⟩, h6⟩, h7⟩, h11⟩
    simp only [h0, h1, h2, h3, h4, h5, h6, h7, h11, and_self]

end Go.Proofs.YtjafjapnmffohaaDoor

namespace Go.Proofs.YtjafjapnmffohaaDoor
open Go.RowKit
set_option linter.unusedVariables false

def exSid : List Int := [253, 108, 0, 98, 0, 0, 0, 0, 0, 3, 5, 0, 0, 0, 0, 7]
theorem exSid_make : makeD 3 5 7 = exSid := by decide
theorem exSid_err : errD 3 5 = 0 := by decide
theorem exSid_is : isB exSid 3 5 = true := by decide
theorem exSid_zero : isD zero16 = false := by decide
theorem exSid_all : AllB exSid := fun x hx => by
  simp [exSid] at hx
  omega
theorem exSid_text : textD 3 5 (7 : Nat) = [51, 46, 115, 116, 101, 101, 114, 46, 55] := by
  have h3 : Lib.itoa 3 = [51] := by rw [show (3 : Int) = ((3 : Nat) : Int) from rfl, Lib.itoa_nonneg, Lib.decDigits_one (by omega)]; rfl
  have h7 : Lib.decDigits 7 = [55] := by rw [Lib.decDigits_one (by omega)]; rfl
  unfold textD
  rw [h3, show ((7 : Nat) : Int).toNat = 7 from rfl, h7]
  rfl

end Go.Proofs.YtjafjapnmffohaaDoor
