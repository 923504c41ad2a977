/- Texts joined.
  Segments by value and in memory: their cells, loaded and stored. No condition.
  What tcp.Has, Span and First answer, and the document's Span and First. Condition: numbers are ints.
  What tcp.Span and First answer, and the document's. Condition: the payload is at most 2^47 bytes.
  What the document's Span and First answer. Condition: the payload is at most 2^47 bytes.
  What tcp.Can answers: whether a segment can be. Condition: at most 2^47 options, and as many bytes of payload.
  What the document's Can answers: whether a segment can be. Condition: at most 2^47 options, and as many bytes of payload.
  What tcp.Put answers: the bytes of a segment. Condition: at most 2^47 options, and as many bytes of payload.
  What the document's Put answers: the bytes of a segment. Condition: at most 2^47 options, and as many bytes of payload.
  What tcp.ahead and tcp.parts answer. Condition: at most 2^47 bytes.
  What the functions that stand in tcp.parts do: each reads one number of the bytes into the segment. Condition: at least 20 bytes, at most 2^47.
  What tcp.Parse answers: the segment of bytes. Condition: at most 2^47 bytes.
  What tcp.Parse answers: the segment of bytes. Condition: at most 2^47 bytes.
  What the document's Parse answers: the segment of bytes. Condition: at most 2^47 bytes.
-/
import Derived.Test.YtdpbhhoabnmbpaaGreatJTp
import Derived.Test.YtdpbhhoabnmbpaaGreatVals
import Derived.Test.YtdpbhhoabnmbpaaGreatJOct
import Derived.Test.YtdpbhhoabnmbpaaGreatApp2
import Derived.Test.YtdpbhhoabnmbpaaGreatJReg
import Derived.BigQuiet
set_option maxRecDepth 100000
namespace Go.Proofs.YtdpbhhoabnmbpaaGreat
open Go.RowKit
set_option linter.unusedVariables false

/-- a segment as it lies: its numbers; where its options are, how many, with how much room, and they; where its payload is, how long, with how much room, and it -/
structure Sg where
  sp : Int
  dp : Int
  sq : Int
  ak : Int
  fl : Int
  wi : Int
  su : Int
  ur : Int
  oA : Option Addr
  om : Nat
  oc : Nat
  os : List Od
  pA : Option Addr
  pm : Nat
  pc : Nat
  ps : List Int
/-- what a segment says -/
structure Sb where
  sp : Int
  dp : Int
  sq : Int
  ak : Int
  fl : Int
  wi : Int
  su : Int
  ur : Int
  os : List Ob
  ps : List Int
def Sg.v (t : Sg) : Sb := ⟨t.sp, t.dp, t.sq, t.ak, t.fl, t.wi, t.su, t.ur, t.os.map Od.v, t.ps⟩
/-- its numbers are as their types ask, its options and its payload lie below block B -/
structure Sg.ok (w : World) (B : Nat) (t : Sg) : Prop where
  sp : i64ok t.sp
  dp : i64ok t.dp
  sq : 0 ≤ t.sq ∧ t.sq < 4294967296
  ak : 0 ≤ t.ak ∧ t.ak < 4294967296
  fl : i64ok t.fl
  wi : i64ok t.wi
  su : i64ok t.su
  ur : i64ok t.ur
  om : t.om ≤ 140737488351232
  os : Os w B t.oA t.om t.os
  pm : t.pm ≤ 140737488351232
  ps : Bs w B t.pA t.pm t.ps
section
variable {w w' : World} {B B' : Nat} {t : Sg}
theorem Sg.ok.keep (h : t.ok w B) (hk : ∀ p : Addr, p.block < B → w'.cell? p = w.cell? p) : t.ok w' B := ⟨h.sp, h.dp, h.sq, h.ak, h.fl, h.wi, h.su, h.ur, h.om, h.os.keep hk, h.pm, h.ps.keep hk⟩
theorem Sg.ok.more (h : t.ok w B) (hB : B ≤ B') : t.ok w B' := ⟨h.sp, h.dp, h.sq, h.ak, h.fl, h.wi, h.su, h.ur, h.om, h.os.more hB, h.pm, h.ps.more hB⟩
theorem Sg.ok.below' (h : t.ok w B) (hb : Below B w w') (hB : B ≤ B') : t.ok w' B' := (h.keep fun _ hp => hb.cell hp).more hB
theorem Sg.ok.low (h : t.ok w w.heap.size) (hb : Low w w') : t.ok w' w'.heap.size := h.below' hb hb.size
end

def segC (t : Sg) : List Value := [.int .i64 t.sp, .int .i64 t.dp, .int .u32 t.sq, .int .u32 t.ak, .int .i64 t.fl, .int .i64 t.wi, .int .i64 t.su, .int .i64 t.ur, .slice t.oA t.om t.oc, .slice t.pA t.pm t.pc]
def segV (t : Sg) : Value := .agg (segC t).toArray
def zeroS : Sg := ⟨0, 0, 0, 0, 0, 0, 0, 0, none, 0, 0, [], none, 0, 0, []⟩
def zeroSb : Sb := ⟨0, 0, 0, 0, 0, 0, 0, 0, [], []⟩
theorem zeroS_ok (w : World) (B : Nat) : zeroS.ok w B := ⟨by simp [zeroS, i64ok], by simp [zeroS, i64ok], by simp [zeroS], by simp [zeroS], by simp [zeroS, i64ok], by simp [zeroS, i64ok], by simp [zeroS, i64ok], by simp [zeroS, i64ok], by simp [zeroS], Os.nil _ _ _, by simp [zeroS], Bs.nil _ _ _⟩
theorem segC_length (t : Sg) : (segC t).length = 10 := rfl
theorem segC_one (t : Sg) : (segC t).toArray.all (·.oneCell') = true := by simp [segC, Value.oneCell']
theorem seg_size : (Tryz.prog.info? 34).map (·.size) = some 10 := by kernel_rfl
theorem seg_zero : (Tryz.prog.info? 34).map (·.zero) = some (some (.agg (segC zeroS).toArray)) := by kernel_rfl

/-- block g is just the segment t -/
abbrev BlkS (w : World) (g : Nat) (t : Sg) : Prop := BlkV w 34 g (segC t)
theorem BlkS.cells {w : World} {g : Nat} {t : Sg} (h : BlkS w g t) :
    w.cell? ⟨g, 0, none⟩ = some (.int .i64 t.sp) ∧ w.cell? ⟨g, 1, none⟩ = some (.int .i64 t.dp) ∧ w.cell? ⟨g, 2, none⟩ = some (.int .u32 t.sq) ∧ w.cell? ⟨g, 3, none⟩ = some (.int .u32 t.ak) ∧ w.cell? ⟨g, 4, none⟩ = some (.int .i64 t.fl) ∧
    w.cell? ⟨g, 5, none⟩ = some (.int .i64 t.wi) ∧ w.cell? ⟨g, 6, none⟩ = some (.int .i64 t.su) ∧ w.cell? ⟨g, 7, none⟩ = some (.int .i64 t.ur) ∧ w.cell? ⟨g, 8, none⟩ = some (.slice t.oA t.om t.oc) ∧ w.cell? ⟨g, 9, none⟩ = some (.slice t.pA t.pm t.pc) :=
  ⟨h.cell 0, h.cell 1, h.cell 2, h.cell 3, h.cell 4, h.cell 5, h.cell 6, h.cell 7, h.cell 8, h.cell 9⟩
section
variable {ops : Array Oper} {rest : List Oper} {o : Oper} {a : Act} {w : World} {Q : Exit → Act → World → Prop}
theorem wpList_box_seg (hgd : o.guard = none) (x : Operand) (ho : o.op = .box 34 x) (t : Sg) (hx : a.eval x = .agg (segC t).toArray)
    (hk : ∀ w', BlkS w' w.heap.size t → Low w w' → w'.heap.size = w.heap.size + 1 → wpList Tryz.prog ops Q rest (a.put o.dst (.pointer (some ⟨w.heap.size, 0, none⟩))) w') : wpList Tryz.prog ops Q (o :: rest) a w :=
  wpList_box_v hgd 34 x ho (segC t) hx hk
theorem wpList_alloc_seg (hgd : o.guard = none) (ho : o.op = .alloc 34)
    (hk : ∀ w', BlkS w' w.heap.size zeroS → Low w w' → w'.heap.size = w.heap.size + 1 → wpList Tryz.prog ops Q rest (a.put o.dst (.pointer (some ⟨w.heap.size, 0, none⟩))) w') : wpList Tryz.prog ops Q (o :: rest) a w :=
  wpList_alloc_v hgd 34 ho (segC zeroS) seg_zero hk
theorem wpList_load_seg (hgd : o.guard = none) (x : Operand) (ho : o.op = .load 34 x) (g : Nat) (hx : a.eval x = .pointer (some ⟨g, 0, none⟩)) (t : Sg) (hb : BlkS w g t)
    (hk : wpList Tryz.prog ops Q rest (a.put o.dst (.agg (segC t).toArray)) w) : wpList Tryz.prog ops Q (o :: rest) a w :=
  wpList_load_row hgd 34 x ho g hx _ (segC t).toArray (0, 0) _ hb Tryz.underlying34 rfl (by rw [seg_size]; rfl) hk
/-- a whole segment is stored -/
theorem wpList_store_seg (hgd : o.guard = none) (x y : Operand) (ho : o.op = .store 34 x y) (g : Nat) (hx : a.eval x = .pointer (some ⟨g, 0, none⟩)) (t : Sg) (hy : a.eval y = .agg (segC t).toArray) (old : Sg) (hb : BlkS w g old)
    (hk : ∀ w', BlkS w' g t → Below g w w' → w'.heap.size = w.heap.size → wpList Tryz.prog ops Q rest (a.put o.dst undef) w') : wpList Tryz.prog ops Q (o :: rest) a w :=
  wpList_store_v hgd 34 x y ho g hx (segC t) hy _ (segC old) hb rfl (by rw [seg_size]; rfl) (segC_one t) hk
end
end Go.Proofs.YtdpbhhoabnmbpaaGreat

namespace Go.Proofs.YtdpbhhoabnmbpaaGreat
open Go.RowKit
set_option linter.unusedVariables false

end Go.Proofs.YtdpbhhoabnmbpaaGreat

namespace Go.Proofs.YtdpbhhoabnmbpaaGreat
open Go.RowKit
set_option linter.unusedVariables false

end Go.Proofs.YtdpbhhoabnmbpaaGreat

namespace Go.Proofs.YtdpbhhoabnmbpaaGreat
open Go.RowKit
set_option linter.unusedVariables false

end Go.Proofs.YtdpbhhoabnmbpaaGreat

namespace Go.Proofs.YtdpbhhoabnmbpaaGreat
open Go.RowKit
set_option linter.unusedVariables false

/-- are its numbers such as their bytes have room for? -/
def fitB (x : Sb) : Bool := decide ((0 ≤ x.sp ∧ x.sp ≤ 65535) ∧ (0 ≤ x.dp ∧ x.dp ≤ 65535) ∧ (0 ≤ x.wi ∧ x.wi ≤ 65535) ∧ (0 ≤ x.su ∧ x.su ≤ 65535) ∧ (0 ≤ x.ur ∧ x.ur ≤ 65535) ∧ (0 ≤ x.fl ∧ x.fl ≤ 255))
def canS (x : Sb) : Int := if fitB x = true then (if canO x.os = 0 then (if 65515 - ((putO x.os).length : Int) < (x.ps.length : Int) then 4 else 0) else canO x.os) else 2
def numsS (x : Sb) : List Int := [x.sp, x.dp, x.wi, x.su, x.ur]
def ins16 (l : List Int) (k : Nat) : Prop := ∀ j, j < k → 0 ≤ l.getD j 0 ∧ l.getD j 0 ≤ 65535
theorem ins16_zero (l : List Int) : ins16 l 0 := fun j h => absurd h (by omega)
theorem ins16_succ {l : List Int} {k : Nat} (h : ins16 l k) (h0 : 0 ≤ l.getD k 0) (h1 : l.getD k 0 ≤ 65535) : ins16 l (k + 1) := fun j hj => by
  rcases Nat.lt_or_ge j k with h2 | h2
  · exact h j h2
  · obtain rfl : j = k := by omega
    exact ⟨h0, h1⟩
theorem fitB_false {x : Sb} {k : Nat} (hk : k < 5) (h : ¬ (0 ≤ (numsS x).getD k 0 ∧ (numsS x).getD k 0 ≤ 65535)) : canS x = 2 := by
  have hf : fitB x = false := by
    unfold fitB
    rw [decide_eq_false_iff_not]
    rintro ⟨h1, h2, h3, h4, h5, h6⟩
    apply h
    obtain rfl | rfl | rfl | rfl | rfl : k = 0 ∨ k = 1 ∨ k = 2 ∨ k = 3 ∨ k = 4 := by omega
    · exact h1
    · exact h2
    · exact h3
    · exact h4
    · exact h5
  unfold canS
  rw [hf]
  rfl
theorem fitB_flags {x : Sb} (h : ¬ (0 ≤ x.fl ∧ x.fl ≤ 255)) : canS x = 2 := by
  have hf : fitB x = false := by
    unfold fitB
    rw [decide_eq_false_iff_not]
    rintro ⟨h1, h2, h3, h4, h5, h6⟩
    exact h h6
  unfold canS
  rw [hf]
  rfl
theorem fitB_true {x : Sb} (h : ins16 (numsS x) 5) (h2 : 0 ≤ x.fl ∧ x.fl ≤ 255) : canS x = if canO x.os = 0 then (if 65515 - ((putO x.os).length : Int) < (x.ps.length : Int) then 4 else 0) else canO x.os := by
  have hf : fitB x = true := by
    unfold fitB
    rw [decide_eq_true_iff]
    exact ⟨h 0 (by omega), h 1 (by omega), h 2 (by omega), h 3 (by omega), h 4 (by omega), h2⟩
  unfold canS
  rw [hf]
  rfl

set_option maxRecDepth 100000 in
set_option maxHeartbeats 800000 in
theorem tccan_any (t : Sg) (w : World) (ht : t.ok w w.heap.size) : Calls Tryz.prog 130 #[segV t] w fun e w' => e = .returned (.int .i64 (canS t.v)) ∧ Below w.heap.size w w' := by
  unfold segV
  have HT := Lib.hid ht
  clear ht
  have hpm := HT.out.pm
  have HPS := Lib.hid (show t.v.ps.length = t.pm from HT.out.ps.len)
  go_enter Tryz.func130, Tryz.ntmps130
  go_wp2_with ((with_reducible refine wpList_box_seg rfl (.tmp 0) rfl t rfl ?_); intro w1 HB hL hz1; refine Hid.out ?_)
  refine Lib.hid ?_
  obtain ⟨c0, c1, c2, c3, c4, c5, c6, c7, c8, c9⟩ := BlkS.cells HB
  replace HB := Lib.hid HB
  clear c2 c3
  go_wp2_with fail
  have hl2 := Low.alloc w1 (.cells #[.int .i64 t.sp, .int .i64 t.dp, .int .i64 t.wi, .int .i64 t.su, .int .i64 t.ur] 3)
  have hk2 : BlkV (w1.alloc (.cells #[.int .i64 t.sp, .int .i64 t.dp, .int .i64 t.wi, .int .i64 t.su, .int .i64 t.ur] 3)) 3 w1.heap.size ((numsS t.v).map (.int .i64)) := BlkV.new w1 _ _
  rw [hz1] at hk2
  replace HB := Lib.hid (HB.out.below hl2 HB.out.lt)
  have hL2 := hL.trans hl2
  clear hL hl2 c0 c1 c4 c5 c6 c7 c8 c9
  generalize w1.alloc (.cells #[.int .i64 t.sp, .int .i64 t.dp, .int .i64 t.wi, .int .i64 t.su, .int .i64 t.ur] 3) = w2 at *
  have HK := Lib.hid hk2
  clear hk2 hz1
  go_loop [19] (fun i => ∃ k : Nat, k ≤ 5 ∧ i = .int .i64 k ∧ Hid (ins16 (numsS t.v) k)) (fun i => 5 - (intOf i).toNat)
  case atStart => exact ⟨0, by omega, rfl, Lib.hid (ins16_zero _)⟩
  case round =>
    obtain ⟨k, hk, rfl, HI⟩ := hrel
    by_cases hlt : k < 5
    · have h0 : w2.cell? ⟨w.heap.size + 1, k, none⟩ = some (.int .i64 ((numsS t.v).getD k 0)) := by
        rw [HK.out.cell k]
        simp [List.getD, show k < (numsS t.v).length from hlt]
      have HF := Lib.hid (fun h => fitB_false (x := t.v) hlt h)
      have HS := Lib.hid (fun h0 h1 => ins16_succ HI.out (l := numsS t.v) (k := k) h0 h1)
      generalize (numsS t.v).getD k 0 = x at *
      by_cases hx0 : x < 0
      · go_wp2_with fail
        go_ret
        exact ⟨by rw [HF.out (by omega)]; rfl, hL2⟩
      · have hx0' : decide (x < 0) = false := decide_eq_false hx0
        by_cases hx1 : 65535 < x
        · go_wp2_with fail
          go_ret
          exact ⟨by rw [HF.out (by omega)]; rfl, hL2⟩
        · have hx1' : decide (65535 < x) = false := decide_eq_false hx1
          go_wp2_with fail
          go_round
          case rel => exact ⟨k + 1, by omega, by go_num, Lib.hid (HS.out (by omega) (by omega))⟩
          case measure => simp [intOf]; omega
    · obtain rfl : k = 5 := by omega
      obtain ⟨c0, c1, c2, c3, c4, c5, c6, c7, c8, c9⟩ := BlkS.cells HB.out
      clear c0 c1 c2 c3 c5 c6 c7
      by_cases hx0 : t.fl < 0
      · have HF := Lib.hid (fitB_flags (x := t.v) (fun h => by have := h.1; change 0 ≤ t.fl at this; omega))
        go_wp2_with fail
        go_ret
        exact ⟨by rw [HF.out]; rfl, hL2⟩
      · have hx0' : decide (t.fl < 0) = false := decide_eq_false hx0
        by_cases hx1 : 255 < t.fl
        · have HF := Lib.hid (fitB_flags (x := t.v) (fun h => by have := h.2; change t.fl ≤ 255 at this; omega))
          go_wp2_with fail
          go_ret
          exact ⟨by rw [HF.out]; rfl, hL2⟩
        · have hx1' : decide (255 < t.fl) = false := decide_eq_false hx1
          have HF := Lib.hid (fitB_true (x := t.v) HI.out ⟨by show 0 ≤ t.fl; omega, by show t.fl ≤ 255; omega⟩)
          rw [HPS.out] at HF
          go_wp2_with fail
          refine (tput_any t.oA t.om t.oc t.os w2 (by have := HT.out.om; omega) (HT.out.low hL2).os).mono ?_
          rintro e w3 ⟨A3, c3, rfl, hb3, -, hB3⟩
          replace HF : Hid (canS t.v = if canO (t.os.map Od.v) = 0 then (if 65515 - ((putO (t.os.map Od.v)).length : Int) < (t.pm : Int) then 4 else 0) else canO (t.os.map Od.v)) := HF
          replace c9 := (hB3.cell (p := ⟨w.heap.size, 9, none⟩) HB.out.lt).trans c9
          have hq : (putO (t.os.map Od.v)).length ≤ 43 := by
            by_cases h0 : canO (t.os.map Od.v) = 0
            · have := putO_len h0; have := (canO_zero h0).2; omega
            · unfold putO; rw [if_neg h0]; simp
          have hL3 := hL2.trans hB3
          clear hb3 hB3 c4 c8 HB HK HI
          generalize (putO (t.os.map Od.v)).length = q at *
          generalize canO (t.os.map Od.v) = x at *
          by_cases hx : x = 0
          · rw [if_pos hx] at HF
            subst hx
            by_cases hl : 65515 - (q : Int) < (t.pm : Int)
            · rw [if_pos hl] at HF
              go_wp2_with fail
              go_ret
              exact ⟨by rw [HF.out]; rfl, hL3⟩
            · rw [if_neg hl] at HF
              go_wp2_with fail
              go_ret
              exact ⟨by rw [HF.out]; rfl, hL3⟩
          · rw [if_neg hx] at HF
            go_wp2_with fail
            go_ret
            exact ⟨by rw [HF.out]; rfl, hL3⟩
end Go.Proofs.YtdpbhhoabnmbpaaGreat

namespace Go.Proofs.YtdpbhhoabnmbpaaGreat
open Go.RowKit
set_option linter.unusedVariables false

def nums6 (x : Sb) : List Int := [x.sp, x.dp, x.wi, x.su, x.ur, x.fl]
theorem fit6_false {x : Sb} {k : Nat} (hk : k < 6) (h : ¬ (0 ≤ (nums6 x).getD k 0 ∧ (nums6 x).getD k 0 ≤ 65535)) : canS x = 2 := by
  by_cases h5 : k < 5
  · refine fitB_false h5 fun h1 => h ?_
    obtain rfl | rfl | rfl | rfl | rfl : k = 0 ∨ k = 1 ∨ k = 2 ∨ k = 3 ∨ k = 4 := by omega
    iterate 5 exact h1
  · obtain rfl : k = 5 := by omega
    refine fitB_flags fun h1 => h ?_
    change 0 ≤ x.fl ∧ x.fl ≤ 65535
    omega
theorem fit6_true {x : Sb} (h : ins16 (nums6 x) 6) (h2 : x.fl ≤ 255) : canS x = if canO x.os = 0 then (if 65515 - ((putO x.os).length : Int) < (x.ps.length : Int) then 4 else 0) else canO x.os :=
  fitB_true (fun j hj => by
    have h1 := h j (by omega)
    obtain rfl | rfl | rfl | rfl | rfl : j = 0 ∨ j = 1 ∨ j = 2 ∨ j = 3 ∨ j = 4 := by omega
    iterate 5 exact h1) ⟨(h 5 (by omega)).1, h2⟩
theorem size_six : (Tryz.prog.info? 90).map (·.size) = some 6 := by kernel_rfl
theorem zero_six : (Tryz.prog.info? 90).map (·.zero) = some (some (.agg [Value.int .i64 0, .int .i64 0, .int .i64 0, .int .i64 0, .int .i64 0, .int .i64 0].toArray)) := by kernel_rfl

set_option maxRecDepth 100000 in
set_option maxHeartbeats 800000 in
theorem trccan_any (t : Sg) (w : World) (ht : t.ok w w.heap.size) : Calls Tryz.prog 64 #[segV t] w fun e w' => e = .returned (.int .i64 (canS t.v)) ∧ Below w.heap.size w w' := by
  unfold segV
  have HT := Lib.hid ht
  clear ht
  have hpm := HT.out.pm
  have HPS := Lib.hid (show t.v.ps.length = t.pm from HT.out.ps.len)
  go_enter Tryz.func64, Tryz.ntmps64
  go_wp2_with ((with_reducible refine wpList_box_seg rfl (.tmp 0) rfl t rfl ?_); intro w1 HB hL hz1; refine Hid.out ?_)
  refine Lib.hid ?_
  obtain ⟨c0, c1, c2, c3, c4, c5, c6, c7, c8, c9⟩ := BlkS.cells HB
  replace HB := Lib.hid HB
  clear c2 c3
  go_wp2_with ((with_reducible refine wpList_alloc_v rfl 90 rfl _ zero_six ?_); intro w2 HZ hl2 hz2; refine Hid.out ?_)
  refine Lib.hid ?_
  replace HB := Lib.hid (HB.out.below hl2 HB.out.lt)
  have hL2 := hL.trans hl2
  rw [hz1] at HZ hz2
  replace HZ := Lib.hid HZ
  clear hL hl2 c0 c1 c4 c5 c6 c7 c8 c9
  go_wp2_with ((refine wpList_store_v rfl 90 (.tmp 3) (.tmp 19) rfl (w.heap.size + 1) rfl ((nums6 t.v).map (.int .i64)) rfl _ _ HZ.out rfl (by rw [size_six]; rfl) (by simp [nums6, Value.oneCell']) ?_); intro w3 HK hb3 hz3; refine Hid.out ?_)
  refine Lib.hid ?_
  replace HB := Lib.hid (HB.out.below hb3 (by omega))
  replace hL2 : Low w w3 := Below.trans hL2 (hb3.mono (by omega))
  replace HK := Lib.hid HK
  clear HZ hz1 hz2 hz3 hb3
  go_wp2_with fail
  go_loop [4] (fun i => ∃ k : Nat, k ≤ 6 ∧ i = .int .i64 k ∧ Hid (ins16 (nums6 t.v) k ∧ (6 ≤ k → t.fl ≤ 255))) (fun i => 6 - (intOf i).toNat)
  case atStart => exact ⟨0, by omega, rfl, Lib.hid ⟨ins16_zero _, fun h => absurd h (by omega)⟩⟩
  case round =>
    obtain ⟨k, hk, rfl, HI⟩ := hrel
    by_cases hlt : k < 6
    · have h0 : w3.cell? ⟨w.heap.size + 1, k, none⟩ = some (.int .i64 ((nums6 t.v).getD k 0)) := by
        rw [HK.out.cell k]
        simp [List.getD, show k < (nums6 t.v).length from hlt]
      have HF := Lib.hid (fun h => fit6_false (x := t.v) hlt h)
      have HS := Lib.hid (fun h0 h1 => ins16_succ HI.out.1 (l := nums6 t.v) (k := k) h0 h1)
      by_cases h5 : k = 5
      · subst h5
        have e5 : (nums6 t.v).getD 5 0 = t.fl := rfl
        rw [e5] at h0 HF HS
        have HF2 := Lib.hid (fun h => fitB_flags (x := t.v) h)
        replace HF2 : Hid (¬ (0 ≤ t.fl ∧ t.fl ≤ 255) → canS t.v = 2) := HF2
        obtain ⟨x, hx⟩ : ∃ x, x = t.fl := ⟨_, rfl⟩
        rw [← hx] at h0 HF HS HF2
        have HX := Lib.hid hx
        clear hx e5
        by_cases hx0 : x < 0
        · go_wp2_with fail
          go_ret
          exact ⟨by rw [HF.out (by omega)]; rfl, hL2⟩
        · have hx0' : decide (x < 0) = false := decide_eq_false hx0
          by_cases hx1 : 65535 < x
          · go_wp2_with fail
            go_ret
            exact ⟨by rw [HF.out (by omega)]; rfl, hL2⟩
          · have hx1' : decide (65535 < x) = false := decide_eq_false hx1
            by_cases hx2 : 255 < x
            · go_wp2_with fail
              go_ret
              exact ⟨by rw [HF2.out (by omega)]; rfl, hL2⟩
            · have hx2' : decide (255 < x) = false := decide_eq_false hx2
              go_wp2_with fail
              go_round
              case rel => exact ⟨6, by omega, rfl, Lib.hid ⟨HS.out (by omega) (by omega), fun _ => by rw [← HX.out]; omega⟩⟩
              case measure => simp [intOf]
      · have h5' : decide ((k : Int) = 5) = false := decide_eq_false (by omega)
        have h5'' : ¬ ((k : Int) = 5) := by omega
        generalize (nums6 t.v).getD k 0 = x at *
        by_cases hx0 : x < 0
        · go_wp2_with fail
          go_ret
          exact ⟨by rw [HF.out (by omega)]; rfl, hL2⟩
        · have hx0' : decide (x < 0) = false := decide_eq_false hx0
          by_cases hx1 : 65535 < x
          · go_wp2_with fail
            go_ret
            exact ⟨by rw [HF.out (by omega)]; rfl, hL2⟩
          · have hx1' : decide (65535 < x) = false := decide_eq_false hx1
            go_wp2_with fail
            go_round
            case rel => exact ⟨k + 1, by omega, by go_num, Lib.hid ⟨HS.out (by omega) (by omega), fun h => absurd h (by omega)⟩⟩
            case measure => simp [intOf]; omega
    · obtain rfl : k = 6 := by omega
      obtain ⟨c0, c1, c2, c3, c4, c5, c6, c7, c8, c9⟩ := BlkS.cells HB.out
      clear c0 c1 c2 c3 c4 c5 c6 c7
      have HF := Lib.hid (fit6_true (x := t.v) HI.out.1 (HI.out.2 (by omega)))
      rw [HPS.out] at HF
      go_wp2_with fail
      refine (trput_any t.oA t.om t.oc t.os w3 (by have := HT.out.om; omega) (HT.out.low hL2).os).mono ?_
      rintro e w4 ⟨A3, c3, rfl, hb3, -, hB3⟩
      replace HF : Hid (canS t.v = if canO (t.os.map Od.v) = 0 then (if 65515 - ((putO (t.os.map Od.v)).length : Int) < (t.pm : Int) then 4 else 0) else canO (t.os.map Od.v)) := HF
      replace c9 := (hB3.cell (p := ⟨w.heap.size, 9, none⟩) HB.out.lt).trans c9
      have hq : (putO (t.os.map Od.v)).length ≤ 43 := by
        by_cases h0 : canO (t.os.map Od.v) = 0
        · have := putO_len h0; have := (canO_zero h0).2; omega
        · unfold putO; rw [if_neg h0]; simp
      have hL3 := hL2.trans hB3
      clear hb3 hB3 c8 HB HK HI
      generalize (putO (t.os.map Od.v)).length = q at *
      generalize canO (t.os.map Od.v) = x at *
      by_cases hx : x = 0
      · rw [if_pos hx] at HF
        subst hx
        by_cases hl : 65515 - (q : Int) < (t.pm : Int)
        · rw [if_pos hl] at HF
          go_wp2_with fail
          go_ret
          exact ⟨by rw [HF.out]; rfl, hL3⟩
        · rw [if_neg hl] at HF
          go_wp2_with fail
          go_ret
          exact ⟨by rw [HF.out]; rfl, hL3⟩
      · rw [if_neg hx] at HF
        go_wp2_with fail
        go_ret
        exact ⟨by rw [HF.out]; rfl, hL3⟩
end Go.Proofs.YtdpbhhoabnmbpaaGreat

namespace Go.Proofs.YtdpbhhoabnmbpaaGreat
open Go.RowKit
set_option linter.unusedVariables false

/-- the bytes ahead of the options, and all -/
def headS (x : Sb) : List Int := two x.sp ++ two x.dp ++ four x.sq ++ four x.ak ++ [(5 + ((putO x.os).length : Int) / 4) * 16, x.fl] ++ two x.wi ++ two x.su ++ two x.ur
def putS (x : Sb) : List Int := if canS x = 0 then headS x ++ putO x.os ++ x.ps else []
theorem canS_zero {x : Sb} (h : canS x = 0) : fitB x = true ∧ canO x.os = 0 ∧ (x.ps.length : Int) ≤ 65515 - ((putO x.os).length : Int) := by
  unfold canS at h
  split at h
  · rename_i h1
    split at h
    · rename_i h2
      split at h
      · omega
      · exact ⟨h1, h2, by omega⟩
    · omega
  · omega
theorem fitB_spec {x : Sb} (h : fitB x = true) : (0 ≤ x.sp ∧ x.sp ≤ 65535) ∧ (0 ≤ x.dp ∧ x.dp ≤ 65535) ∧ (0 ≤ x.wi ∧ x.wi ≤ 65535) ∧ (0 ≤ x.su ∧ x.su ≤ 65535) ∧ (0 ≤ x.ur ∧ x.ur ≤ 65535) ∧ (0 ≤ x.fl ∧ x.fl ≤ 255) := of_decide_eq_true h
theorem wpList_append_full {P : Program} {w : World} {ops : Array Oper} {rest : List Oper} {o : Oper} {a : Act} {Q : Exit → Act → World → Prop} (hgd : o.guard = none) (s x : Operand) (t : TypeId)
    (ho : o.op = .call { callee := .builtin .append, args := #[s, x], argTypes := #[t, t] })
    (e : TypeId) (i : TypeInfo) (ht : P.underlying t = some (.slice e)) (hi : P.info? e = some i) (hz : i.zero = some (.int .u8 0)) (hsize : i.size = 1) (hby : i.bytes = 1)
    (b0 o0 n c0 : Nat) (xs : List Int) (hs : a.eval s = .slice (some ⟨b0, o0, none⟩) n c0) (hx0 : Bs w w.heap.size (some ⟨b0, o0, none⟩) n xs) (hc0 : c0 = n)
    (A : Option Addr) (m c : Nat) (ys : List Int) (hx : a.eval x = .slice A m c) (hy : Bs w w.heap.size A m ys) (hn : n + m ≤ 140737488355328)
    (h : ∀ A' c' w', Bs w' w'.heap.size A' (n + m) (xs ++ ys) → n + m ≤ c' → c' ≤ 9223372036854775807 → Low w w' → wpList P ops Q rest (a.put o.dst (.slice A' (n + m) c')) w') : wpList P ops Q (o :: rest) a w :=
  wpList_plain hgd fun _ hK => wp_append_full s x t ho e i ht hi hz hsize hby b0 o0 n c0 xs hs hx0 hc0 A m c ys hx hy hn fun A' c' w' h1 h2 h3 h4 => hK _ _ (h A' c' w' h1 h2 h3 h4)
theorem BlkV.drew {w : World} {t : TypeId} {g : Nat} {vs : List Value} (h : BlkV w t g vs) : BlkV w.drew t g vs := h

theorem GivesBE.of {w w' : World} {ys zs : List Int} {x y : Int} {A : Option Addr} {n c : Nat} (hy : ys = zs) (hx : x = y) (hb : Bs w' w'.heap.size A n zs) (h1 : n ≤ c) (h2 : c ≤ 9223372036854775807) (hB : Below w.heap.size w w') :
    GivesBE w ys x (.returned (.tuple #[.slice A n c, .int .i64 y])) w' := by
  subst hy hx
  obtain rfl := hb.len
  exact ⟨A, c, rfl, hb, ⟨h1, h2⟩, hB⟩

set_option maxRecDepth 100000 in
set_option maxHeartbeats 1600000 in
theorem tcput_any (t : Sg) (w : World) (ht : t.ok w w.heap.size) : Calls Tryz.prog 126 #[segV t] w (GivesBE w (putS t.v) (canS t.v)) := by
  unfold segV
  obtain ⟨i0, hi, hz0, hz1, hz2⟩ := info_parts info5
  have HT := Lib.hid ht
  clear ht
  go_enter Tryz.func126, Tryz.ntmps126
  go_wp2_with ((with_reducible refine wpList_box_seg rfl (.tmp 0) rfl t rfl ?_); intro w1 HB hL hz; refine Hid.out ?_)
  refine Lib.hid ?_
  replace HB := Lib.hid HB
  clear hz
  go_wp2_with (with_reducible refine wpList_load_seg rfl (.tmp 1) rfl w.heap.size rfl t HB.out ?_)
  refine (tccan_any t w1 (HT.out.low hL)).mono ?_
  rintro e w2 ⟨rfl, hB2⟩
  replace HB := Lib.hid (HB.out.below hB2 HB.out.lt)
  replace hL := Low.trans hL hB2
  clear hB2
  by_cases hcan : canS t.v = 0
  · have HP := Lib.hid (show putS t.v = headS t.v ++ putO t.v.os ++ t.v.ps by unfold putS; rw [if_pos hcan])
    obtain ⟨hf, hco, hlen⟩ := canS_zero hcan
    obtain ⟨b1, b2, b3, b4, b5, b6⟩ := fitB_spec hf
    have HCAN := Lib.hid hcan
    rw [hcan]
    obtain ⟨-, hq40, hq4⟩ := parse_put hco
    replace hq40 : (putO (t.os.map Od.v)).length ≤ 40 := hq40
    replace hq4 : (putO (t.os.map Od.v)).length % 4 = 0 := hq4
    replace hlen : (t.ps.length : Int) ≤ 65515 - ((putO (t.os.map Od.v)).length : Int) := hlen
    rw [HT.out.ps.len] at hlen
    replace b6 : 0 ≤ t.fl ∧ t.fl ≤ 255 := b6
    have HCO := Lib.hid (show canO (t.os.map Od.v) = 0 from hco)
    replace HP : Hid (putS t.v = headS t.v ++ putO (t.os.map Od.v) ++ t.ps) := HP
    have HH := Lib.hid (show headS t.v = two t.sp ++ two t.dp ++ four t.sq ++ four t.ak ++ [(5 + ((putO (t.os.map Od.v)).length : Int) / 4) * 16, t.fl] ++ two t.wi ++ two t.su ++ two t.ur from rfl)
    clear hcan hf hco b1 b2 b3 b4 b5
    obtain ⟨c0, c1, c2, c3, c4, c5, c6, c7, c8, c9⟩ := BlkS.cells HB.out
    clear c0 c1 c2 c3 c4 c5 c6 c7 c9
    go_wp2_with fail
    refine (tput_any t.oA t.om t.oc t.os w2 (by have := HT.out.om; omega) (HT.out.low hL).os).mono ?_
    rintro e w3 ⟨A3, r3, rfl, hb3, -, hB3⟩
    rw [HCO.out]
    generalize putO (t.os.map Od.v) = ys at *
    have hys := hb3.len
    obtain ⟨q, hq⟩ : ∃ q, q = ys.length := ⟨_, rfl⟩
    rw [← hq] at hb3 hq40 hq4 hlen HH ⊢
    have HO := Lib.hid hb3
    replace HB := Lib.hid (HB.out.below hB3 HB.out.lt)
    replace hL := Low.trans hL hB3
    clear hb3 hB3 c8 hys hq
    go_wp2_with fail
    refine wp_region_plan (.rd 0 (.rd 1 (.rd 3 (.rd 4 (.act 2 (.act 5 (.rd 6 .done))))))) (by kernel_rfl) (by kernel_rfl) (fun _ _ d _ _ h => by cases d <;> exact h) (by kernel_rfl) ?_
    replace hL := hL.trans (Below.drew (Below.refl w3.heap.size w3))
    replace HO : Hid (Bs w3.drew w3.drew.heap.size A3 q ys) := Lib.hid HO.out.drew
    replace HB := Lib.hid HB.out.drew
    generalize w3.drew = w4 at *
    obtain ⟨c0, c1, c2, c3, c4, c5, c6, c7, c8, c9⟩ := BlkS.cells HB.out
    have hlt := HB.out.lt
    iterate 4 (refine walkP_read (v := _) rfl (by rfl) (by intro y hy; have e0 := (hy.cell (p := ⟨w.heap.size, 0, none⟩) hlt).trans c0; have e1 := (hy.cell (p := ⟨w.heap.size, 1, none⟩) hlt).trans c1; go_simp; try rfl) ?_; simp only [Act.put, List.setIfInBounds_toArray, List.set_cons_zero, List.set_cons_succ])
    clear c0 c1 c2 c3 c4 c5 c6 c7 c8 c9
    refine walkP_act rfl (by rfl) (fun K hK => ?_)
    go_simp
    refine (put16_any none 0 0 t.sp [] w4 (by omega) HT.out.sp (Bs.nil _ _ _)).mono ?_
    rintro e w5 ⟨v, rfl, g5, rfl, hg5, hk5, hl5, ha5, hl⟩
    go_simp
    refine hK _ _ hl ?_
    clear hK K
    have hb5 : Bs w5 w5.heap.size (some ⟨g5, 0, none⟩) 2 (two t.sp) := hk5.bs ha5 hk5.lt hl5
    replace hL := hL.trans hl
    replace HO := Lib.hid (HO.out.below' hl hl.size)
    replace HB := Lib.hid (HB.out.below hl HB.out.lt)
    clear hl hk5 ha5 hl5 hg5
    refine walkP_act rfl (by rfl) (fun K hK => ?_)
    go_simp
    refine (put16_any (some ⟨g5, 0, none⟩) 2 2 t.dp (two t.sp) w5 (by omega) HT.out.dp hb5).mono ?_
    rintro e w6 ⟨v, rfl, g6, rfl, hg6, hk6, hl6, ha6, hl⟩
    go_simp
    refine hK _ _ hl ?_
    clear hK K
    have HB6 : Hid (Bs w6 w6.heap.size (some ⟨g6, 0, none⟩) 4 (two t.sp ++ two t.dp)) := Lib.hid (hk6.bs ha6 hk6.lt hl6)
    replace hL := hL.trans hl
    replace HO := Lib.hid (HO.out.below' hl hl.size)
    replace HB := Lib.hid (HB.out.below hl HB.out.lt)
    clear hl hk6 ha6 hl6 hg6 hb5
    iterate 1 (refine walkP_read (v := _) rfl (by rfl) (by intro y hy; go_simp; try rfl) ?_; simp only [Act.put, List.setIfInBounds_toArray, List.set_cons_zero, List.set_cons_succ])
    unfold walkP
    generalize two t.sp ++ two t.dp = z4 at *
    go_wp2_with fail
    refine wp_region_plan (.rd 0 (.rd 1 (.rd 2 (.rd 4 (.rd 5 (.act 3 (.act 6 (.rd 7 .done)))))))) (by kernel_rfl) (by kernel_rfl) (fun _ _ d _ _ h => by cases d <;> exact h) (by kernel_rfl) ?_
    replace hL := hL.trans (Below.drew (Below.refl w6.heap.size w6))
    replace HO : Hid (Bs w6.drew w6.drew.heap.size A3 q ys) := Lib.hid HO.out.drew
    replace HB6 : Hid (Bs w6.drew w6.drew.heap.size (some ⟨g6, 0, none⟩) 4 z4) := Lib.hid HB6.out.drew
    replace HB := Lib.hid HB.out.drew
    generalize w6.drew = w7 at *
    obtain ⟨c0, c1, c2, c3, c4, c5, c6, c7, c8, c9⟩ := BlkS.cells HB.out
    replace hlt := HB.out.lt
    iterate 5 (refine walkP_read (v := _) rfl (by rfl) (by intro y hy; have e0 := (hy.cell (p := ⟨w.heap.size, 2, none⟩) hlt).trans c2; have e1 := (hy.cell (p := ⟨w.heap.size, 3, none⟩) hlt).trans c3; go_simp; try rfl) ?_; simp only [Act.put, List.setIfInBounds_toArray, List.set_cons_zero, List.set_cons_succ])
    clear c0 c1 c2 c3 c4 c5 c6 c7 c8 c9
    refine walkP_act rfl (by rfl) (fun K hK => ?_)
    go_simp
    refine (put32_any (some ⟨g6, 0, none⟩) 4 4 t.sq z4 w7 (by omega) HT.out.sq HB6.out).mono ?_
    rintro e w8 ⟨v, rfl, g8, rfl, hg8, hk8, hl8, ha8, hl⟩
    go_simp
    refine hK _ _ hl ?_
    clear hK K
    have hb8 : Bs w8 w8.heap.size (some ⟨g8, 0, none⟩) 8 (z4 ++ four t.sq) := hk8.bs ha8 hk8.lt hl8
    replace hL := hL.trans hl
    replace HO := Lib.hid (HO.out.below' hl hl.size)
    replace HB := Lib.hid (HB.out.below hl HB.out.lt)
    clear hl hk8 ha8 hl8 hg8 HB6
    generalize z4 ++ four t.sq = z8 at *
    refine walkP_act rfl (by rfl) (fun K hK => ?_)
    go_simp
    refine (put32_any (some ⟨g8, 0, none⟩) 8 8 t.ak z8 w8 (by omega) HT.out.ak hb8).mono ?_
    rintro e w9 ⟨v, rfl, g9, rfl, hg9, hk9, hl9, ha9, hl⟩
    go_simp
    refine hK _ _ hl ?_
    clear hK K
    have hb9 : Bs w9 w9.heap.size (some ⟨g9, 0, none⟩) 12 (z8 ++ four t.ak) := hk9.bs ha9 hk9.lt hl9
    replace hL := hL.trans hl
    replace HO := Lib.hid (HO.out.below' hl hl.size)
    replace HB := Lib.hid (HB.out.below hl HB.out.lt)
    clear hl hk9 ha9 hl9 hg9 hb8
    generalize z8 ++ four t.ak = z12 at *
    iterate 1 (refine walkP_read (v := _) rfl (by rfl) (by intro y hy; go_simp; try rfl) ?_; simp only [Act.put, List.setIfInBounds_toArray, List.set_cons_zero, List.set_cons_succ])
    unfold walkP
    obtain ⟨c0, c1, c2, c3, c4, c5, c6, c7, c8, c9⟩ := BlkS.cells HB.out
    clear c0 c1 c2 c3 c5 c6 c7 c8 c9
    have HW := Lib.hid (show (5 + (q : Int) / 4) * 16 = (20 + (q : Int)) / 4 * 16 by omega)
    rw [HW.out] at HH
    have hwr : 0 ≤ (20 + (q : Int)) / 4 * 16 ∧ (20 + (q : Int)) / 4 * 16 < 256 := by omega
    have hla := Low.alloc w9 (.cells #[.int .u8 ((20 + (q : Int)) / 4 * 16), .int .u8 t.fl] 5)
    have hka : Blk (w9.alloc (.cells #[.int .u8 ((20 + (q : Int)) / 4 * 16), .int .u8 t.fl] 5)) 5 w9.heap.size [(20 + (q : Int)) / 4 * 16, t.fl] := Blk.new w9 5 [(20 + (q : Int)) / 4 * 16, t.fl]
    have HBA := Lib.hid (hka.bs (.cons hwr.1 hwr.2 (.cons b6.1 (by omega) .nil)) hka.lt rfl)
    have HB9 := Lib.hid (hb9.below' hla hla.size)
    replace hL := hL.trans hla
    replace HO := Lib.hid (HO.out.below' hla hla.size)
    replace HB := Lib.hid (HB.out.below hla HB.out.lt)
    clear hb9 hla hka
    go_wp2_with (at_builtin; refine wpList_append_full rfl (.tmp 37) (.tmp 44) _ rfl 5 i0 Tryz.underlying22 hi hz0 hz1 hz2 g9 0 12 12 z12 rfl HB9.out rfl (some ⟨w9.heap.size, 0, none⟩) 2 2 _ rfl HBA.out (by omega) ?_; intro AA ra wa hba hca hca2 hla; refine Hid.out ?_)
    refine Lib.hid ?_
    replace hL := hL.trans hla
    replace HO := Lib.hid (HO.out.below' hla hla.size)
    replace HB := Lib.hid (HB.out.below hla HB.out.lt)
    replace hba : Bs wa wa.heap.size AA 14 (z12 ++ [(20 + (q : Int)) / 4 * 16, t.fl]) := hba
    have HBA2 := Lib.hid hba
    clear hba HB9 HBA c4 hla
    generalize z12 ++ [(20 + (q : Int)) / 4 * 16, t.fl] = z14 at *
    go_wp2_with fail
    refine wp_region_plan (.rd 0 (.rd 1 (.rd 2 (.rd 4 (.rd 5 (.rd 7 (.rd 8 (.act 3 (.act 6 (.act 9 (.rd 10 .done))))))))))) (by kernel_rfl) (by kernel_rfl) (fun _ _ d _ _ h => by cases d <;> exact h) (by kernel_rfl) ?_
    replace hL := hL.trans (Below.drew (Below.refl wa.heap.size wa))
    replace HO : Hid (Bs wa.drew wa.drew.heap.size A3 q ys) := Lib.hid HO.out.drew
    replace HBA2 : Hid (Bs wa.drew wa.drew.heap.size AA 14 z14) := Lib.hid HBA2.out.drew
    replace HB := Lib.hid HB.out.drew
    generalize wa.drew = wb at *
    obtain ⟨c0, c1, c2, c3, c4, c5, c6, c7, c8, c9⟩ := BlkS.cells HB.out
    replace hlt := HB.out.lt
    iterate 7 (refine walkP_read (v := _) rfl (by rfl) (by intro y hy; have e0 := (hy.cell (p := ⟨w.heap.size, 5, none⟩) hlt).trans c5; have e1 := (hy.cell (p := ⟨w.heap.size, 6, none⟩) hlt).trans c6; have e2 := (hy.cell (p := ⟨w.heap.size, 7, none⟩) hlt).trans c7; go_simp; try rfl) ?_; simp only [Act.put, List.setIfInBounds_toArray, List.set_cons_zero, List.set_cons_succ])
    clear c0 c1 c2 c3 c4 c5 c6 c7 c8 c9
    refine walkP_act rfl (by rfl) (fun K hK => ?_)
    go_simp
    refine (put16_any AA 14 ra t.wi z14 wb (by omega) HT.out.wi HBA2.out).mono ?_
    rintro e wc ⟨v, rfl, gc, rfl, hgc, hkc, hlc, hac, hl⟩
    go_simp
    refine hK _ _ hl ?_
    clear hK K
    have hbc : Bs wc wc.heap.size (some ⟨gc, 0, none⟩) 16 (z14 ++ two t.wi) := hkc.bs hac hkc.lt hlc
    replace hL := hL.trans hl
    replace HO := Lib.hid (HO.out.below' hl hl.size)
    replace HB := Lib.hid (HB.out.below hl HB.out.lt)
    clear hl hkc hac hlc hgc HBA2
    generalize z14 ++ two t.wi = z16 at *
    refine walkP_act rfl (by rfl) (fun K hK => ?_)
    go_simp
    refine (put16_any (some ⟨gc, 0, none⟩) 16 16 t.su z16 wc (by omega) HT.out.su hbc).mono ?_
    rintro e wd ⟨v, rfl, gd, rfl, hgd, hkd, hld, had, hl⟩
    go_simp
    refine hK _ _ hl ?_
    clear hK K
    have hbd : Bs wd wd.heap.size (some ⟨gd, 0, none⟩) 18 (z16 ++ two t.su) := hkd.bs had hkd.lt hld
    replace hL := hL.trans hl
    replace HO := Lib.hid (HO.out.below' hl hl.size)
    replace HB := Lib.hid (HB.out.below hl HB.out.lt)
    clear hl hkd had hld hgd hbc
    generalize z16 ++ two t.su = z18 at *
    refine walkP_act rfl (by rfl) (fun K hK => ?_)
    go_simp
    refine (put16_any (some ⟨gd, 0, none⟩) 18 18 t.ur z18 wd (by omega) HT.out.ur hbd).mono ?_
    rintro e we ⟨v, rfl, ge, rfl, hge, hke, hle, hae, hl⟩
    go_simp
    refine hK _ _ hl ?_
    clear hK K
    have hbe : Bs we we.heap.size (some ⟨ge, 0, none⟩) 20 (z18 ++ two t.ur) := hke.bs hae hke.lt hle
    replace hL := hL.trans hl
    replace HO := Lib.hid (HO.out.below' hl hl.size)
    replace HB := Lib.hid (HB.out.below hl HB.out.lt)
    clear hl hke hae hle hge hbd
    rw [← HH.out] at hbe
    generalize headS t.v = hd at *
    iterate 1 (refine walkP_read (v := _) rfl (by rfl) (by intro y hy; go_simp; try rfl) ?_; simp only [Act.put, List.setIfInBounds_toArray, List.set_cons_zero, List.set_cons_succ])
    unfold walkP
    obtain ⟨c0, c1, c2, c3, c4, c5, c6, c7, c8, c9⟩ := BlkS.cells HB.out
    clear c0 c1 c2 c3 c4 c5 c6 c7 c8
    have hlf := Low.alloc we (.cells #[.slice (some ⟨ge, 0, none⟩) 20 20, .slice A3 q r3, .slice t.pA t.pm t.pc] 22)
    have HPS := Lib.hid ((HT.out.low hL).ps.below' hlf hlf.size)
    have HBE := Lib.hid (hbe.below' hlf hlf.size)
    have HNR := Lib.hid (heap_alloc_new we (.cells #[.slice (some ⟨ge, 0, none⟩) 20 20, .slice A3 q r3, .slice t.pA t.pm t.pc] 22))
    replace hL := hL.trans hlf
    replace HO := Lib.hid (HO.out.below' hlf hlf.size)
    clear HB hbe hlf
    go_wp2_with fail
    refine (join3 (some ⟨ge, 0, none⟩) A3 t.pA 20 20 q r3 t.pm t.pc we.heap.size _ hd ys t.ps _ (by omega) HNR.out HBE.out HO.out HPS.out).mono ?_
    rintro e wf ⟨v, rfl, gf, rfl, hgf, hkf, hlf, haf, hl⟩
    replace hL := hL.trans hl
    have hbf := hkf.bs haf hkf.lt hlf
    clear hl hkf haf hlf hgf HO HPS HBE HNR c9
    go_wp2_with fail
    go_ret2
    exact GivesBE.of HP.out HCAN.out hbf (Nat.le_refl _) (by omega) hL
  · have HP := Lib.hid (show putS t.v = [] by unfold putS; rw [if_neg hcan])
    obtain ⟨x, hx⟩ : ∃ x, x = canS t.v := ⟨_, rfl⟩
    rw [← hx] at hcan ⊢
    have HX := Lib.hid hx
    clear hx
    go_wp2_with fail
    go_ret2
    exact GivesBE.of HP.out HX.out.symm (Bs.nil _ _ _) (Nat.le_refl _) (by simp) hL
end Go.Proofs.YtdpbhhoabnmbpaaGreat

namespace Go.Proofs.YtdpbhhoabnmbpaaGreat
open Go.RowKit
set_option linter.unusedVariables false

set_option maxRecDepth 100000 in
set_option maxHeartbeats 1600000 in
theorem trcput_any (t : Sg) (w : World) (ht : t.ok w w.heap.size) : Calls Tryz.prog 35 #[segV t] w (GivesBE w (putS t.v) (canS t.v)) := by
  unfold segV
  obtain ⟨i0, hi, hz0, hz1, hz2⟩ := info_parts info5
  have HT := Lib.hid ht
  clear ht
  go_enter Tryz.func35, Tryz.ntmps35
  go_wp2_with ((with_reducible refine wpList_box_seg rfl (.tmp 0) rfl t rfl ?_); intro w1 HB hL hz; refine Hid.out ?_)
  refine Lib.hid ?_
  replace HB := Lib.hid HB
  clear hz
  go_wp2_with (with_reducible refine wpList_load_seg rfl (.tmp 1) rfl w.heap.size rfl t HB.out ?_)
  refine (trccan_any t w1 (HT.out.low hL)).mono ?_
  rintro e w2 ⟨rfl, hB2⟩
  replace HB := Lib.hid (HB.out.below hB2 HB.out.lt)
  replace hL := Low.trans hL hB2
  clear hB2
  by_cases hcan : canS t.v = 0
  · have HP := Lib.hid (show putS t.v = headS t.v ++ putO t.v.os ++ t.v.ps by unfold putS; rw [if_pos hcan])
    obtain ⟨hf, hco, hlen⟩ := canS_zero hcan
    obtain ⟨b1, b2, b3, b4, b5, b6⟩ := fitB_spec hf
    have HCAN := Lib.hid hcan
    rw [hcan]
    obtain ⟨-, hq40, hq4⟩ := parse_put hco
    replace hq40 : (putO (t.os.map Od.v)).length ≤ 40 := hq40
    replace hq4 : (putO (t.os.map Od.v)).length % 4 = 0 := hq4
    replace hlen : (t.ps.length : Int) ≤ 65515 - ((putO (t.os.map Od.v)).length : Int) := hlen
    rw [HT.out.ps.len] at hlen
    replace b6 : 0 ≤ t.fl ∧ t.fl ≤ 255 := b6
    have HCO := Lib.hid (show canO (t.os.map Od.v) = 0 from hco)
    replace HP : Hid (putS t.v = headS t.v ++ putO (t.os.map Od.v) ++ t.ps) := HP
    have HH := Lib.hid (show headS t.v = two t.sp ++ two t.dp ++ four t.sq ++ four t.ak ++ [(5 + ((putO (t.os.map Od.v)).length : Int) / 4) * 16, t.fl] ++ two t.wi ++ two t.su ++ two t.ur from rfl)
    clear hcan hf hco b1 b2 b3 b4 b5
    obtain ⟨c0, c1, c2, c3, c4, c5, c6, c7, c8, c9⟩ := BlkS.cells HB.out
    clear c0 c1 c2 c3 c4 c5 c6 c7 c9
    go_wp2_with fail
    refine (trput_any t.oA t.om t.oc t.os w2 (by have := HT.out.om; omega) (HT.out.low hL).os).mono ?_
    rintro e w3 ⟨A3, r3, rfl, hb3, -, hB3⟩
    rw [HCO.out]
    generalize putO (t.os.map Od.v) = ys at *
    obtain ⟨q, hq⟩ : ∃ q, q = ys.length := ⟨_, rfl⟩
    rw [← hq] at hb3 hq40 hq4 hlen HH ⊢
    replace HB := Lib.hid (HB.out.below hB3 HB.out.lt)
    replace hL := Low.trans hL hB3
    clear hB3 c8 hq
    go_wp2_with fail
    refine wp_region_planS (fun y => Below w3.drew.heap.size w3.drew y) (.rd 0 (.rd 1 (.rd 3 (.rd 4 (.act 2 (.act 5 (.act 6 (.rd 7 .done)))))))) (by kernel_rfl) (by kernel_rfl) (fun _ _ d _ _ h => by cases d <;> exact h) (by kernel_rfl) (Below.refl _ _) ?_
    replace hL := hL.trans (Below.drew (Below.refl w3.heap.size w3))
    replace hb3 : Bs w3.drew w3.drew.heap.size A3 q ys := hb3.drew
    replace HB := Lib.hid HB.out.drew
    generalize w3.drew = u at *
    have HO := Lib.hid hb3
    have HPS := Lib.hid (HT.out.low hL).ps
    obtain ⟨c0, c1, c2, c3, c4, c5, c6, c7, c8, c9⟩ := BlkS.cells HB.out
    have hlt := HB.out.lt
    clear hb3 HB
    iterate 4 (refine walkS_read (v := _) rfl (by rfl) (by intro y hy; have e0 := (hy.cell (p := ⟨w.heap.size, 0, none⟩) hlt).trans c0; have e1 := (hy.cell (p := ⟨w.heap.size, 1, none⟩) hlt).trans c1; go_simp; try rfl) ?_; simp only [Act.put, List.setIfInBounds_toArray, List.set_cons_zero, List.set_cons_succ])
    have HC : Hid (_ ∧ _ ∧ _ ∧ _ ∧ _ ∧ _ ∧ _) := Lib.hid ⟨c2, c3, c4, c5, c6, c7, c9⟩
    clear c0 c1 c2 c3 c4 c5 c6 c7 c8 c9
    refine walkS_act rfl (by rfl) (fun K hK => ?_)
    go_simp
    refine (rtwo_any t.sp u HT.out.sp).mono ?_
    rintro e w5 ⟨v, rfl, g5, rfl, hg5, hk5, hl5, ha5, hl⟩
    go_simp
    refine hK _ _ hl ?_
    clear hK K
    have hLB : Below u.heap.size u w5 := hl
    refine walkS_act rfl (by rfl) (fun K hK => ?_)
    go_simp
    refine (rtwo_any t.dp w5 HT.out.dp).mono ?_
    rintro e w6 ⟨v, rfl, g6, rfl, hg6, hk6, hl6, ha6, hl7⟩
    go_simp
    replace hLB := Low.trans hLB hl7
    refine hK _ _ hLB ?_
    clear hK K
    have hO6 := OwnB.ofBlk (base := u.heap.size) (hk5.below hl7 hk5.lt) ha5 hg5 hl5 (by simp only [maxLen]; omega)
    have hb6 := hk6.bs ha6 hk6.lt hl6
    clear hl hl7 hk5 hk6 ha5 ha6 hl5 hl6 hg5 hg6
    refine walkS_act rfl (by rfl) (fun K hK => ?_)
    refine wp_append_bs (.tmp 21) (.tmp 24) _ rfl u.heap.size 5 i0 Tryz.underlying22 hi hz0 hz1 hz2 _ 2 2 _ rfl hO6 _ 2 2 _ _ rfl hb6 (by omega) hLB.size ?_
    intro A7 r7 w7 hO7 hg7 hx7
    clear hx7
    have hLC : Below u.heap.size u w7 := hLB.grown hg7 hLB.size (fun k hk => (hO6.lt k hk).1)
    refine hK _ _ hLC ?_
    clear hK K hO6 hb6 hg7 hLB
    replace hO7 : OwnB 5 w7 u.heap.size A7 4 r7 (two t.sp ++ two t.dp) := hO7
    generalize two t.sp ++ two t.dp = z4 at *
    simp only [Act.put, List.setIfInBounds_toArray, List.set_cons_zero, List.set_cons_succ]
    iterate 1 (refine walkS_read (v := _) rfl (by rfl) (by intro y hy; go_simp; try rfl) ?_; simp only [Act.put, List.setIfInBounds_toArray, List.set_cons_zero, List.set_cons_succ])
    unfold walkS
    have cc := (hLC.cell (p := ⟨w.heap.size, 2, none⟩) hlt).trans HC.out.1
    go_wp2_with fail
    refine (rfour_any t.sq w7 HT.out.sq).mono ?_
    rintro e wc1 ⟨Ac1, rc1, rfl, hbc1, hl⟩
    have hM1 := Below.trans hLC (hl.mono hLC.size)
    have hOc1 := hO7.below hl
    clear cc hl hO7 hLC
    go_wp2_with (at_builtin; refine wpList_append_bs rfl (.tmp 26) (.tmp 29) _ rfl u.heap.size 5 i0 Tryz.underlying22 hi hz0 hz1 hz2 _ 4 r7 _ rfl hOc1 Ac1 4 rc1 _ _ rfl hbc1 (by omega) hM1.size ?_; intro An1 rn1 wn1 hO hg hx; refine Hid.out ?_)
    refine Lib.hid ?_
    have hLn1 : Below u.heap.size u wn1 := hM1.grown hg hM1.size (fun k hk => (hOc1.lt k hk).1)
    have hOn1 : OwnB 5 wn1 u.heap.size An1 8 rn1 (z4 ++ four t.sq) := hO
    clear hO hg hx hOc1 hbc1 hM1
    generalize z4 ++ four t.sq = z8_ at *
    have cc := (hLn1.cell (p := ⟨w.heap.size, 3, none⟩) hlt).trans HC.out.2.1
    go_wp2_with fail
    refine (rfour_any t.ak wn1 HT.out.ak).mono ?_
    rintro e wc2 ⟨Ac2, rc2, rfl, hbc2, hl⟩
    have hM2 := Below.trans hLn1 (hl.mono hLn1.size)
    have hOc2 := hOn1.below hl
    clear cc hl hOn1 hLn1
    go_wp2_with (at_builtin; refine wpList_append_bs rfl (.tmp 31) (.tmp 34) _ rfl u.heap.size 5 i0 Tryz.underlying22 hi hz0 hz1 hz2 _ 8 rn1 _ rfl hOc2 Ac2 4 rc2 _ _ rfl hbc2 (by omega) hM2.size ?_; intro An2 rn2 wn2 hO hg hx; refine Hid.out ?_)
    refine Lib.hid ?_
    have hLn2 : Below u.heap.size u wn2 := hM2.grown hg hM2.size (fun k hk => (hOc2.lt k hk).1)
    have hOn2 : OwnB 5 wn2 u.heap.size An2 12 rn2 (z8_ ++ four t.ak) := hO
    clear hO hg hx hOc2 hbc2 hM2
    generalize z8_ ++ four t.ak = z12_ at *
    have cc := (hLn2.cell (p := ⟨w.heap.size, 4, none⟩) hlt).trans HC.out.2.2.1
    have hwr : 0 ≤ (5 + (q : Int) / 4) * 16 ∧ (5 + (q : Int) / 4) * 16 < 256 := by omega
    have hla := Low.alloc wn2 (.cells #[.int .u8 ((5 + (q : Int) / 4) * 16), .int .u8 t.fl] 5)
    have hka : Blk (wn2.alloc (.cells #[.int .u8 ((5 + (q : Int) / 4) * 16), .int .u8 t.fl] 5)) 5 wn2.heap.size [(5 + (q : Int) / 4) * 16, t.fl] := Blk.new wn2 5 [(5 + (q : Int) / 4) * 16, t.fl]
    have hba := hka.bs (.cons hwr.1 hwr.2 (.cons b6.1 (by omega) .nil)) hka.lt rfl
    have hM := Below.trans hLn2 (hla.mono hLn2.size)
    have hOa := hOn2.below hla
    clear hla hka hOn2 hLn2
    go_wp2_with (at_builtin; refine wpList_append_bs rfl (.tmp 36) (.tmp 46) _ rfl u.heap.size 5 i0 Tryz.underlying22 hi hz0 hz1 hz2 _ 12 rn2 _ rfl hOa (some ⟨wn2.heap.size, 0, none⟩) 2 2 _ _ rfl hba (by omega) hM.size ?_; intro Aa ra wa hO hg hx; refine Hid.out ?_)
    refine Lib.hid ?_
    have hLa : Below u.heap.size u wa := hM.grown hg hM.size (fun k hk => (hOa.lt k hk).1)
    have hOb : OwnB 5 wa u.heap.size Aa 14 ra (z12_ ++ [(5 + (q : Int) / 4) * 16, t.fl]) := hO
    clear hO hg hx hOa hba hM cc
    generalize z12_ ++ [(5 + (q : Int) / 4) * 16, t.fl] = z14 at *
    have cc := (hLa.cell (p := ⟨w.heap.size, 5, none⟩) hlt).trans HC.out.2.2.2.1
    go_wp2_with fail
    refine (rtwo_any t.wi wa HT.out.wi).mono ?_
    rintro e wc4 ⟨v, rfl, gc4, rfl, hgc, hkc, hlc, hac, hl⟩
    have hbc4 := hkc.bs hac hkc.lt hlc
    clear hgc hkc hlc hac
    have hM4 := Below.trans hLa (hl.mono hLa.size)
    have hOc4 := hOb.below hl
    clear cc hl hOb hLa
    go_wp2_with (at_builtin; refine wpList_append_bs rfl (.tmp 48) (.tmp 51) _ rfl u.heap.size 5 i0 Tryz.underlying22 hi hz0 hz1 hz2 _ 14 ra _ rfl hOc4 _ 2 2 _ _ rfl hbc4 (by omega) hM4.size ?_; intro An4 rn4 wn4 hO hg hx; refine Hid.out ?_)
    refine Lib.hid ?_
    have hLn4 : Below u.heap.size u wn4 := hM4.grown hg hM4.size (fun k hk => (hOc4.lt k hk).1)
    have hOn4 : OwnB 5 wn4 u.heap.size An4 16 rn4 (z14 ++ two t.wi) := hO
    clear hO hg hx hOc4 hbc4 hM4
    generalize z14 ++ two t.wi = z16_ at *
    have cc := (hLn4.cell (p := ⟨w.heap.size, 6, none⟩) hlt).trans HC.out.2.2.2.2.1
    go_wp2_with fail
    refine (rtwo_any t.su wn4 HT.out.su).mono ?_
    rintro e wc5 ⟨v, rfl, gc5, rfl, hgc, hkc, hlc, hac, hl⟩
    have hbc5 := hkc.bs hac hkc.lt hlc
    clear hgc hkc hlc hac
    have hM5 := Below.trans hLn4 (hl.mono hLn4.size)
    have hOc5 := hOn4.below hl
    clear cc hl hOn4 hLn4
    go_wp2_with (at_builtin; refine wpList_append_bs rfl (.tmp 53) (.tmp 56) _ rfl u.heap.size 5 i0 Tryz.underlying22 hi hz0 hz1 hz2 _ 16 rn4 _ rfl hOc5 _ 2 2 _ _ rfl hbc5 (by omega) hM5.size ?_; intro An5 rn5 wn5 hO hg hx; refine Hid.out ?_)
    refine Lib.hid ?_
    have hLn5 : Below u.heap.size u wn5 := hM5.grown hg hM5.size (fun k hk => (hOc5.lt k hk).1)
    have hOn5 : OwnB 5 wn5 u.heap.size An5 18 rn5 (z16_ ++ two t.su) := hO
    clear hO hg hx hOc5 hbc5 hM5
    generalize z16_ ++ two t.su = z18_ at *
    have cc := (hLn5.cell (p := ⟨w.heap.size, 7, none⟩) hlt).trans HC.out.2.2.2.2.2.1
    go_wp2_with fail
    refine (rtwo_any t.ur wn5 HT.out.ur).mono ?_
    rintro e wc6 ⟨v, rfl, gc6, rfl, hgc, hkc, hlc, hac, hl⟩
    have hbc6 := hkc.bs hac hkc.lt hlc
    clear hgc hkc hlc hac
    have hM6 := Below.trans hLn5 (hl.mono hLn5.size)
    have hOc6 := hOn5.below hl
    clear cc hl hOn5 hLn5
    go_wp2_with (at_builtin; refine wpList_append_bs rfl (.tmp 58) (.tmp 61) _ rfl u.heap.size 5 i0 Tryz.underlying22 hi hz0 hz1 hz2 _ 18 rn5 _ rfl hOc6 _ 2 2 _ _ rfl hbc6 (by omega) hM6.size ?_; intro An6 rn6 wn6 hO hg hx; refine Hid.out ?_)
    refine Lib.hid ?_
    have hLn6 : Below u.heap.size u wn6 := hM6.grown hg hM6.size (fun k hk => (hOc6.lt k hk).1)
    have hOn6 : OwnB 5 wn6 u.heap.size An6 20 rn6 (z18_ ++ two t.ur) := hO
    clear hO hg hx hOc6 hbc6 hM6
    rw [← HH.out] at hOn6
    generalize headS t.v = hd at *
    have hbo := HO.out.below hLn6
    go_wp2_with (at_builtin; refine wpList_append_bs rfl (.tmp 63) (.tmp 64) _ rfl u.heap.size 5 i0 Tryz.underlying22 hi hz0 hz1 hz2 _ 20 rn6 _ rfl hOn6 A3 q r3 _ _ rfl hbo (by omega) hLn6.size ?_; intro Ax rx wx hO hg hx; refine Hid.out ?_)
    refine Lib.hid ?_
    have hLx : Below u.heap.size u wx := hLn6.grown hg hLn6.size (fun k hk => (hOn6.lt k hk).1)
    have hOx : OwnB 5 wx u.heap.size Ax (20 + q) rx (hd ++ ys) := hO
    clear hO hg hx hOn6 hbo hLn6
    have cc := (hLx.cell (p := ⟨w.heap.size, 9, none⟩) hlt).trans HC.out.2.2.2.2.2.2
    have hbp := HPS.out.below hLx
    go_wp2_with (at_builtin; refine wpList_append_bs rfl (.tmp 66) (.tmp 68) _ rfl u.heap.size 5 i0 Tryz.underlying22 hi hz0 hz1 hz2 _ (20 + q) rx _ rfl hOx t.pA t.pm t.pc _ _ rfl hbp (by omega) hLx.size ?_; intro Ay ry wy hO hg hx; refine Hid.out ?_)
    refine Lib.hid ?_
    have hLy : Below u.heap.size u wy := hLx.grown hg hLx.size (fun k hk => (hOx.lt k hk).1)
    have hcap := hO.cap
    have hby := hO.bs (Nat.le_refl _)
    have hLz : Below w.heap.size w wy := Below.trans hL (hLy.mono hL.size)
    clear hO hg hx hOx hbp hLx cc hLy
    go_wp2_with fail
    go_ret2
    exact GivesBE.of HP.out HCAN.out hby hcap.1 (by have := hcap.2; simp only [maxLen] at this; omega) hLz
  · have HP := Lib.hid (show putS t.v = [] by unfold putS; rw [if_neg hcan])
    obtain ⟨x, hx⟩ : ∃ x, x = canS t.v := ⟨_, rfl⟩
    rw [← hx] at hcan ⊢
    have HX := Lib.hid hx
    clear hx
    go_wp2_with fail
    go_ret2
    exact GivesBE.of HP.out HX.out.symm (Bs.nil _ _ _) (Nat.le_refl _) (by simp) hL
end Go.Proofs.YtdpbhhoabnmbpaaGreat

namespace Go.Proofs.YtdpbhhoabnmbpaaGreat
open Go.RowKit
set_option linter.unusedVariables false

/-- how many bytes stand ahead of the payload, or why that can't be said -/
def aheadS (xs : List Int) : Nat × Int :=
  if xs.length < 20 then (0, 3)
  else if xs.getD 12 0 % 16 ≠ 0 ∨ xs.getD 12 0 / 16 < 5 then (0, 5)
  else if (xs.length : Int) < 4 * (xs.getD 12 0 / 16) then (0, 3)
  else ((4 * (xs.getD 12 0 / 16)).toNat, 0)
def segS (xs : List Int) (m : Nat) (os : List Ob) : Sb := ⟨num2 xs 0, num2 xs 2, num4 xs 4, num4 xs 8, xs.getD 13 0, num2 xs 14, num2 xs 16, num2 xs 18, os, xs.drop m⟩
def parseS (xs : List Int) : Sb × Int :=
  if (aheadS xs).2 = 0 then
    (if (parseL ((xs.take (aheadS xs).1).drop 20)).2 = 0 then (segS xs (aheadS xs).1 (parseL ((xs.take (aheadS xs).1).drop 20)).1, 0) else (zeroSb, (parseL ((xs.take (aheadS xs).1).drop 20)).2))
  else (zeroSb, (aheadS xs).2)
theorem and15 (b : Int) (h0 : 0 ≤ b) (h1 : b < 256) : bits .and .u8 b 15 = b % 16 := by
  have h : ∀ n : Fin 256, bits .and .u8 (n.val : Int) 15 = (n.val : Int) % 16 := by decide +kernel
  have := h ⟨b.toNat, by omega⟩
  simpa [Int.toNat_of_nonneg h0] using this

set_option maxRecDepth 100000 in
set_option maxHeartbeats 800000 in
theorem ahead_any (A : Option Addr) (n c : Nat) (xs : List Int) (w : World) (hn : n ≤ 140737488355328) (hb : Bs w w.heap.size A n xs) :
    Calls Tryz.prog 133 #[.slice A n c] w fun e w' => e = .returned (.tuple #[.int .i64 ((aheadS xs).1 : Nat), .int .i64 (aheadS xs).2]) ∧ ∃ k, w' = w.drewN k := by
  have hl := hb.len
  by_cases h20 : n < 20
  · have HX := Lib.hid (show aheadS xs = (0, 3) by unfold aheadS; rw [if_pos (by omega)])
    clear hb
    go_enter Tryz.func133, Tryz.ntmps133
    go_wp2_with fail
    go_ret2
    exact ⟨by rw [HX.out]; rfl, 0, rfl⟩
  · obtain ⟨b, o, rfl, -, hc⟩ := hb.mem (by omega)
    have c12 := hc 12 (by omega)
    have hr := hb.nonneg 12
    have HX := Lib.hid (show aheadS xs = if xs.getD 12 0 % 16 ≠ 0 ∨ xs.getD 12 0 / 16 < 5 then (0, 5) else if (n : Int) < 4 * (xs.getD 12 0 / 16) then (0, 3) else ((4 * (xs.getD 12 0 / 16)).toNat, 0) by rw [← hl]; unfold aheadS; rw [if_neg (by omega)])
    clear hc hb hl
    generalize xs.getD 12 0 = x at *
    have a15 := and15 x hr.1 hr.2
    have n12 : (12 : Int) < n := by omega
    go_enter Tryz.func133, Tryz.ntmps133
    go_wp2_with fail
    go_quiet (fail)
    have hq1 : 0 ≤ x / 16 ∧ x / 16 < 16 := by omega
    have hq2 : 0 ≤ x % 16 ∧ x % 16 < 16 := by omega
    by_cases hf : x % 16 = 0
    · by_cases h5 : x / 16 < 5
      · rw [if_pos (Or.inr h5)] at HX
        have d5 : decide (4 * (x / 16) < 20) = true := decide_eq_true (by omega)
        have h5' : 4 * (x / 16) < 20 := by omega
        generalize x / 16 = y at *
        go_wp2_with fail
        go_ret2
        exact ⟨by rw [HX.out]; rfl, _, rfl⟩
      · rw [if_neg (fun h => h.elim (fun h => h hf) h5)] at HX
        have h5' : ¬ 4 * (x / 16) < 20 := by omega
        have d5 : decide (4 * (x / 16) < 20) = false := decide_eq_false h5'
        generalize x / 16 = y at *
        by_cases hs : (n : Int) < 4 * y
        · rw [if_pos hs] at HX
          go_wp2_with fail
          go_ret2
          exact ⟨by rw [HX.out]; rfl, _, rfl⟩
        · rw [if_neg hs] at HX
          go_wp2_with fail
          go_ret2
          exact ⟨by rw [HX.out]; simp [Int.toNat_of_nonneg (show 0 ≤ 4 * y by omega)], _, rfl⟩
    · rw [if_pos (Or.inl hf)] at HX
      go_wp2_with fail
      go_ret2
      exact ⟨by rw [HX.out]; rfl, _, rfl⟩

def partsC : List Value := [.int .i64 0, .func (.func 144) #[] #[], .int .i64 2, .func (.func 145) #[] #[], .int .i64 4, .func (.func 146) #[] #[], .int .i64 8, .func (.func 147) #[] #[],
  .int .i64 13, .func (.func 148) #[] #[], .int .i64 14, .func (.func 149) #[] #[], .int .i64 16, .func (.func 150) #[] #[], .int .i64 18, .func (.func 151) #[] #[]]
set_option maxHeartbeats 800000 in
theorem parts_any (w : World) : Calls Tryz.prog 135 #[] w fun e w' => e = .returned (.slice (some ⟨w.heap.size, 0, none⟩) 8 8) ∧ BlkV w' 198 w.heap.size partsC ∧ Low w w' ∧ w'.heap.size = w.heap.size + 1 := by
  go_enter Tryz.func135, Tryz.ntmps135
  go_wp2_with fail
  go_ret
  exact ⟨rfl, BlkV.new w 198 partsC, Low.alloc _ _, by simp⟩
end Go.Proofs.YtdpbhhoabnmbpaaGreat

namespace Go.Proofs.YtdpbhhoabnmbpaaGreat
open Go.RowKit
set_option linter.unusedVariables false

theorem results_nil {P : Program} {fn : Func} (h : fn.results = #[]) (tmps : Array Value) (w : World) : (results fn tmps).run P w = .ok (.tuple #[]) w := by
  simp [results, h]
section
variable (A : Option Addr) (n c g : Nat) (xs : List Int) (t : Sg) (w : World) (hn : n ≤ 140737488355328) (h20 : 20 ≤ n) (hb : Bs w g A n xs) (hk : BlkS w g t)
include hn h20 hb hk

set_option maxHeartbeats 400000 in
theorem part1_any : Calls Tryz.prog 144 #[.pointer (some ⟨g, 0, none⟩), .slice A n c, .int .i64 0] w fun e w' => e = .returned (.tuple #[]) ∧ BlkS w' g { t with sp := num2 xs 0 } ∧ Below g w w' ∧ ∀ i : Nat, i ≠ g → w'.heap[i]? = w.heap[i]? := by
  have HK := Lib.hid hk
  have hlt := hk.lt
  have HB := Lib.hid (hb.more (Nat.le_of_lt hlt))
  clear hb hk
  go_enter Tryz.func144, Tryz.ntmps144
  go_wp2_with fail
  refine (u16_yes A n c 0 0 xs w hn HB.out rfl (by omega)).mono ?_
  rintro e w1 ⟨rfl, k, rfl⟩
  have HK1 : Hid (BlkS (w.drewN k) g t) := HK
  have hB : Below g w (w.drewN k) := below_drewN (Below.refl _ _) k
  have hz : ∀ i : Nat, (w.drewN k).heap[i]? = w.heap[i]? := fun _ => rfl
  generalize w.drewN k = w1 at *
  clear HK HB
  have f0 := HK1.out.frozen 0
  have c0 := (BlkS.cells HK1.out).1
  obtain ⟨y, hy⟩ : ∃ y, y = num2 xs 0 := ⟨_, rfl⟩
  rw [← hy]
  have HY := Lib.hid hy
  clear hy
  go_wp2_with fail
  refine bodyPost_end (results_nil Tryz.results144 _ _) rfl ⟨rfl, ?_, hB.setCell (Nat.le_refl _) _, fun i hi => (Below.heap_setCell _ _ _ i hi).trans (hz i)⟩
  rw [← HY.out]
  exact HK1.out.set_ 0 (.int .i64 y)

set_option maxHeartbeats 400000 in
theorem part2_any : Calls Tryz.prog 145 #[.pointer (some ⟨g, 0, none⟩), .slice A n c, .int .i64 2] w fun e w' => e = .returned (.tuple #[]) ∧ BlkS w' g { t with dp := num2 xs 2 } ∧ Below g w w' ∧ ∀ i : Nat, i ≠ g → w'.heap[i]? = w.heap[i]? := by
  have HK := Lib.hid hk
  have hlt := hk.lt
  have HB := Lib.hid (hb.more (Nat.le_of_lt hlt))
  clear hb hk
  go_enter Tryz.func145, Tryz.ntmps145
  go_wp2_with fail
  refine (u16_yes A n c 2 2 xs w hn HB.out rfl (by omega)).mono ?_
  rintro e w1 ⟨rfl, k, rfl⟩
  have HK1 : Hid (BlkS (w.drewN k) g t) := HK
  have hB : Below g w (w.drewN k) := below_drewN (Below.refl _ _) k
  have hz : ∀ i : Nat, (w.drewN k).heap[i]? = w.heap[i]? := fun _ => rfl
  generalize w.drewN k = w1 at *
  clear HK HB
  have f0 := HK1.out.frozen 1
  have c0 := (BlkS.cells HK1.out).2.1
  obtain ⟨y, hy⟩ : ∃ y, y = num2 xs 2 := ⟨_, rfl⟩
  rw [← hy]
  have HY := Lib.hid hy
  clear hy
  go_wp2_with fail
  refine bodyPost_end (results_nil Tryz.results145 _ _) rfl ⟨rfl, ?_, hB.setCell (Nat.le_refl _) _, fun i hi => (Below.heap_setCell _ _ _ i hi).trans (hz i)⟩
  rw [← HY.out]
  exact HK1.out.set_ 1 (.int .i64 y)

set_option maxHeartbeats 400000 in
theorem part3_any : Calls Tryz.prog 146 #[.pointer (some ⟨g, 0, none⟩), .slice A n c, .int .i64 4] w fun e w' => e = .returned (.tuple #[]) ∧ BlkS w' g { t with sq := num4 xs 4 } ∧ Below g w w' ∧ ∀ i : Nat, i ≠ g → w'.heap[i]? = w.heap[i]? := by
  have HK := Lib.hid hk
  have hlt := hk.lt
  have HB := Lib.hid (hb.more (Nat.le_of_lt hlt))
  clear hb hk
  go_enter Tryz.func146, Tryz.ntmps146
  go_wp2_with fail
  refine (u32_yes A n c 4 4 xs w hn HB.out rfl (by omega)).mono ?_
  rintro e w1 ⟨rfl, k, rfl⟩
  have HK1 : Hid (BlkS (w.drewN k) g t) := HK
  have hB : Below g w (w.drewN k) := below_drewN (Below.refl _ _) k
  have hz : ∀ i : Nat, (w.drewN k).heap[i]? = w.heap[i]? := fun _ => rfl
  generalize w.drewN k = w1 at *
  clear HK HB
  have f0 := HK1.out.frozen 2
  have c0 := (BlkS.cells HK1.out).2.2.1
  obtain ⟨y, hy⟩ : ∃ y, y = num4 xs 4 := ⟨_, rfl⟩
  rw [← hy]
  have HY := Lib.hid hy
  clear hy
  go_wp2_with fail
  refine bodyPost_end (results_nil Tryz.results146 _ _) rfl ⟨rfl, ?_, hB.setCell (Nat.le_refl _) _, fun i hi => (Below.heap_setCell _ _ _ i hi).trans (hz i)⟩
  rw [← HY.out]
  exact HK1.out.set_ 2 (.int .u32 y)

set_option maxHeartbeats 400000 in
theorem part4_any : Calls Tryz.prog 147 #[.pointer (some ⟨g, 0, none⟩), .slice A n c, .int .i64 8] w fun e w' => e = .returned (.tuple #[]) ∧ BlkS w' g { t with ak := num4 xs 8 } ∧ Below g w w' ∧ ∀ i : Nat, i ≠ g → w'.heap[i]? = w.heap[i]? := by
  have HK := Lib.hid hk
  have hlt := hk.lt
  have HB := Lib.hid (hb.more (Nat.le_of_lt hlt))
  clear hb hk
  go_enter Tryz.func147, Tryz.ntmps147
  go_wp2_with fail
  refine (u32_yes A n c 8 8 xs w hn HB.out rfl (by omega)).mono ?_
  rintro e w1 ⟨rfl, k, rfl⟩
  have HK1 : Hid (BlkS (w.drewN k) g t) := HK
  have hB : Below g w (w.drewN k) := below_drewN (Below.refl _ _) k
  have hz : ∀ i : Nat, (w.drewN k).heap[i]? = w.heap[i]? := fun _ => rfl
  generalize w.drewN k = w1 at *
  clear HK HB
  have f0 := HK1.out.frozen 3
  have c0 := (BlkS.cells HK1.out).2.2.2.1
  obtain ⟨y, hy⟩ : ∃ y, y = num4 xs 8 := ⟨_, rfl⟩
  rw [← hy]
  have HY := Lib.hid hy
  clear hy
  go_wp2_with fail
  refine bodyPost_end (results_nil Tryz.results147 _ _) rfl ⟨rfl, ?_, hB.setCell (Nat.le_refl _) _, fun i hi => (Below.heap_setCell _ _ _ i hi).trans (hz i)⟩
  rw [← HY.out]
  exact HK1.out.set_ 3 (.int .u32 y)

set_option maxHeartbeats 400000 in
theorem part5_any : Calls Tryz.prog 148 #[.pointer (some ⟨g, 0, none⟩), .slice A n c, .int .i64 13] w fun e w' => e = .returned (.tuple #[]) ∧ BlkS w' g { t with fl := xs.getD 13 0 } ∧ Below g w w' ∧ ∀ i : Nat, i ≠ g → w'.heap[i]? = w.heap[i]? := by
  have HK := Lib.hid hk
  have hlt := hk.lt
  obtain ⟨b, o, rfl, hbl, hc⟩ := hb.mem (by omega)
  have c13 := hc 13 (by omega)
  have hr := hb.nonneg 13
  have n13 : (13 : Int) < n := by omega
  obtain ⟨y, hy⟩ : ∃ y, y = xs.getD 13 0 := ⟨_, rfl⟩
  rw [← hy] at c13 hr
  have HY := Lib.hid hy
  clear hy hb hk hc
  have f0 := HK.out.frozen 4
  have c0 := (BlkS.cells HK.out).2.2.2.2.1
  go_enter Tryz.func148, Tryz.ntmps148
  go_wp2_with fail
  refine bodyPost_end (results_nil Tryz.results148 _ _) rfl ⟨rfl, ?_, (Below.refl g w).setCell (Nat.le_refl _) _, fun i hi => Below.heap_setCell _ _ _ i hi⟩
  rw [← HY.out]
  exact HK.out.set_ 4 (.int .i64 y)

set_option maxHeartbeats 400000 in
theorem part6_any : Calls Tryz.prog 149 #[.pointer (some ⟨g, 0, none⟩), .slice A n c, .int .i64 14] w fun e w' => e = .returned (.tuple #[]) ∧ BlkS w' g { t with wi := num2 xs 14 } ∧ Below g w w' ∧ ∀ i : Nat, i ≠ g → w'.heap[i]? = w.heap[i]? := by
  have HK := Lib.hid hk
  have hlt := hk.lt
  have HB := Lib.hid (hb.more (Nat.le_of_lt hlt))
  clear hb hk
  go_enter Tryz.func149, Tryz.ntmps149
  go_wp2_with fail
  refine (u16_yes A n c 14 14 xs w hn HB.out rfl (by omega)).mono ?_
  rintro e w1 ⟨rfl, k, rfl⟩
  have HK1 : Hid (BlkS (w.drewN k) g t) := HK
  have hB : Below g w (w.drewN k) := below_drewN (Below.refl _ _) k
  have hz : ∀ i : Nat, (w.drewN k).heap[i]? = w.heap[i]? := fun _ => rfl
  generalize w.drewN k = w1 at *
  clear HK HB
  have f0 := HK1.out.frozen 5
  have c0 := (BlkS.cells HK1.out).2.2.2.2.2.1
  obtain ⟨y, hy⟩ : ∃ y, y = num2 xs 14 := ⟨_, rfl⟩
  rw [← hy]
  have HY := Lib.hid hy
  clear hy
  go_wp2_with fail
  refine bodyPost_end (results_nil Tryz.results149 _ _) rfl ⟨rfl, ?_, hB.setCell (Nat.le_refl _) _, fun i hi => (Below.heap_setCell _ _ _ i hi).trans (hz i)⟩
  rw [← HY.out]
  exact HK1.out.set_ 5 (.int .i64 y)

set_option maxHeartbeats 400000 in
theorem part7_any : Calls Tryz.prog 150 #[.pointer (some ⟨g, 0, none⟩), .slice A n c, .int .i64 16] w fun e w' => e = .returned (.tuple #[]) ∧ BlkS w' g { t with su := num2 xs 16 } ∧ Below g w w' ∧ ∀ i : Nat, i ≠ g → w'.heap[i]? = w.heap[i]? := by
  have HK := Lib.hid hk
  have hlt := hk.lt
  have HB := Lib.hid (hb.more (Nat.le_of_lt hlt))
  clear hb hk
  go_enter Tryz.func150, Tryz.ntmps150
  go_wp2_with fail
  refine (u16_yes A n c 16 16 xs w hn HB.out rfl (by omega)).mono ?_
  rintro e w1 ⟨rfl, k, rfl⟩
  have HK1 : Hid (BlkS (w.drewN k) g t) := HK
  have hB : Below g w (w.drewN k) := below_drewN (Below.refl _ _) k
  have hz : ∀ i : Nat, (w.drewN k).heap[i]? = w.heap[i]? := fun _ => rfl
  generalize w.drewN k = w1 at *
  clear HK HB
  have f0 := HK1.out.frozen 6
  have c0 := (BlkS.cells HK1.out).2.2.2.2.2.2.1
  obtain ⟨y, hy⟩ : ∃ y, y = num2 xs 16 := ⟨_, rfl⟩
  rw [← hy]
  have HY := Lib.hid hy
  clear hy
  go_wp2_with fail
  refine bodyPost_end (results_nil Tryz.results150 _ _) rfl ⟨rfl, ?_, hB.setCell (Nat.le_refl _) _, fun i hi => (Below.heap_setCell _ _ _ i hi).trans (hz i)⟩
  rw [← HY.out]
  exact HK1.out.set_ 6 (.int .i64 y)

set_option maxHeartbeats 400000 in
theorem part8_any : Calls Tryz.prog 151 #[.pointer (some ⟨g, 0, none⟩), .slice A n c, .int .i64 18] w fun e w' => e = .returned (.tuple #[]) ∧ BlkS w' g { t with ur := num2 xs 18 } ∧ Below g w w' ∧ ∀ i : Nat, i ≠ g → w'.heap[i]? = w.heap[i]? := by
  have HK := Lib.hid hk
  have hlt := hk.lt
  have HB := Lib.hid (hb.more (Nat.le_of_lt hlt))
  clear hb hk
  go_enter Tryz.func151, Tryz.ntmps151
  go_wp2_with fail
  refine (u16_yes A n c 18 18 xs w hn HB.out rfl (by omega)).mono ?_
  rintro e w1 ⟨rfl, k, rfl⟩
  have HK1 : Hid (BlkS (w.drewN k) g t) := HK
  have hB : Below g w (w.drewN k) := below_drewN (Below.refl _ _) k
  have hz : ∀ i : Nat, (w.drewN k).heap[i]? = w.heap[i]? := fun _ => rfl
  generalize w.drewN k = w1 at *
  clear HK HB
  have f0 := HK1.out.frozen 7
  have c0 := (BlkS.cells HK1.out).2.2.2.2.2.2.2.1
  obtain ⟨y, hy⟩ : ∃ y, y = num2 xs 18 := ⟨_, rfl⟩
  rw [← hy]
  have HY := Lib.hid hy
  clear hy
  go_wp2_with fail
  refine bodyPost_end (results_nil Tryz.results151 _ _) rfl ⟨rfl, ?_, hB.setCell (Nat.le_refl _) _, fun i hi => (Below.heap_setCell _ _ _ i hi).trans (hz i)⟩
  rw [← HY.out]
  exact HK1.out.set_ 7 (.int .i64 y)

end
end Go.Proofs.YtdpbhhoabnmbpaaGreat

namespace Go.Proofs.YtdpbhhoabnmbpaaGreat
open Go.RowKit
set_option linter.unusedVariables false

/-- a segment and a number are handed back -/
def GivesS (w : World) (r : Sb × Int) (e : Ending) (w' : World) : Prop :=
  ∃ t : Sg, e = .returned (.tuple #[segV t, .int .i64 r.2]) ∧ t.v = r.1 ∧ t.ok w' w'.heap.size ∧ Below w.heap.size w w'
/-- what a segment holds lies from block lo on -/
def SFrom (lo : Nat) (t : Sg) : Prop := OFrom lo t.oA t.om t.os ∧ (0 < t.pm → ∃ b p, t.pA = some ⟨b, p, none⟩ ∧ lo ≤ b)
theorem OFrom.lessS {lo lo' n : Nat} {A : Option Addr} {os : List Od} (h : OFrom lo A n os) (hl : lo' ≤ lo) : OFrom lo' A n os :=
  ⟨fun hn => by
    obtain ⟨b, p, e, hb⟩ := h.1 hn
    exact ⟨b, p, e, by omega⟩, fun o ho => (h.2 o ho).less hl⟩
theorem zeroS_from (lo : Nat) : SFrom lo zeroS := ⟨⟨fun h => absurd h (by show ¬ 0 < 0; omega), fun o ho => by cases ho⟩, fun h => absurd h (by show ¬ 0 < 0; omega)⟩
def GivesSF (w : World) (r : Sb × Int) (e : Ending) (w' : World) : Prop :=
  ∃ t : Sg, e = .returned (.tuple #[segV t, .int .i64 r.2]) ∧ t.v = r.1 ∧ t.ok w' w'.heap.size ∧ Below w.heap.size w w' ∧ SFrom w.heap.size t
theorem GivesSF.of {w w' : World} {r : Sb × Int} {x : Sb} {k : Int} {t : Sg} (hr : r = (x, k)) (ht : t.v = x) (hk : t.ok w' w'.heap.size) (hB : Below w.heap.size w w') (hf : SFrom w.heap.size t) : GivesSF w r (.returned (.tuple #[segV t, .int .i64 k])) w' := by
  subst hr
  exact ⟨t, rfl, ht, hk, hB, hf⟩
theorem GivesS.of {w w' : World} {r : Sb × Int} {x : Sb} {k : Int} {t : Sg} (hr : r = (x, k)) (ht : t.v = x) (hk : t.ok w' w'.heap.size) (hB : Below w.heap.size w w') : GivesS w r (.returned (.tuple #[segV t, .int .i64 k])) w' := by
  subst hr
  exact ⟨t, rfl, ht, hk, hB⟩
theorem ret_seg {fn : Func} {p q : Tmp} {R : Ending → World → Prop} {tmps : Array Value} {df : List Deferred} {w : World} {g : Nat} {t : Sg} {er : Int} (hfn : fn.results = #[.cell p 34, .tmp q]) (hp : tmps.getD p undef = .pointer (some ⟨g, 0, none⟩)) (hq : tmps.getD q undef = .int .i64 er)
    (hb : BlkS w g t) (hR : R (.returned (.tuple #[segV t, .int .i64 er])) w) (hd : df = []) : bodyPost Tryz.prog fn R .ret ⟨tmps, df⟩ w :=
  bodyPost_ret (results_cell_tmp hfn tmps w g _ _ _ _ _ hp hq hb Tryz.underlying34 rfl (by rw [seg_size]; rfl)) hd hR

theorem Bs.mid {w : World} {B b o n s m : Nat} {xs : List Int} (h : Bs w B (some ⟨b, o, none⟩) n xs) (hs : s ≤ m) (hm : m ≤ n) : Bs w B (some ⟨b, o + s, none⟩) (m - s) ((xs.take m).drop s) :=
  ⟨by rw [List.length_drop, List.length_take, h.len]; omega, (h.all.take m).drop s, fun hn => by
    obtain ⟨b', o', e, hb, hc⟩ := h.mem (by omega)
    injection e with e
    injection e with e1 e2 _
    subst e1 e2
    refine ⟨_, _, rfl, hb, fun i hi => ?_⟩
    have := hc (s + i) (by omega)
    rw [← Nat.add_assoc] at this
    rw [this]
    have hlt : s + i < m := by omega
    simp [List.getD, List.getElem?_drop, hlt]⟩

/-- a slice is cut, whatever its room is -/
theorem run_mid (b o n c m : Nat) (hn : n ≤ 140737488355328) (h1 : 20 ≤ m) (h2 : m ≤ n) (hc : n ≤ c) (hc2 : c ≤ 9223372036854775807) :
    ∃ A', (∀ u, (Instr.sliceAt 22 (.slice (some ⟨b, o, none⟩) n c) (some (.int .i64 20)) (some (.int .i64 (m : Int))) none).run Tryz.prog u = .ok (.slice A' (m - 20) (c - 20)) u) ∧ (0 < m - 20 → A' = some ⟨b, o + 20, none⟩) := by
  have i1 : (20 : Int) ≤ m := by omega
  have i2 : (m : Int) ≤ c := by omega
  have i3 : (20 : Int) ≤ c := by omega
  by_cases h : c = 20
  · obtain rfl : m = 20 := by omega
    subst h
    refine ⟨some ⟨b, o, none⟩, fun u => by go_simp, fun h => by omega⟩
  · refine ⟨some ⟨b, o + 20, none⟩, fun u => by go_simp, fun _ => rfl⟩
theorem wpList_slice {ops : Array Oper} {rest : List Oper} {o : Oper} {a : Act} {w : World} {Q : Exit → Act → World → Prop} (hgd : o.guard = none) (t : TypeId) (x : Operand) (lo hi mx : Option Operand) (ho : o.op = .slice t x lo hi mx) (v : Value)
    (h : (Instr.sliceAt t (a.eval x) (lo.map a.eval) (hi.map a.eval) (mx.map a.eval)).run Tryz.prog w = .ok v w) (hk : wpList Tryz.prog ops Q rest (a.put o.dst v) w) : wpList Tryz.prog ops Q (o :: rest) a w :=
  wpList_plain hgd fun K hK => by
    unfold Oper.wp execOp
    simp only [ho, Sem.run_bind, h, Result.andThen_ok, Sem.run_pure]
    exact hK _ _ hk
theorem Bs.at_mid {w : World} {B n m : Nat} {A' : Option Addr} {b o s : Nat} {xs : List Int} (h : Bs w B (some ⟨b, o, none⟩) n xs) (hs : s ≤ m) (hm : m ≤ n) (hA : 0 < m - s → A' = some ⟨b, o + s, none⟩) : Bs w B A' (m - s) ((xs.take m).drop s) := by
  have h1 := h.mid hs hm
  rcases Nat.eq_zero_or_pos (m - s) with h0 | h0
  · rw [h0] at h1 ⊢
    exact ⟨h1.len, h1.all, fun h => by omega⟩
  · rw [hA h0]; exact h1

theorem aheadS_ok {xs : List Int} (hall : AllB xs) (h : (aheadS xs).2 = 0) : 20 ≤ (aheadS xs).1 ∧ (aheadS xs).1 ≤ 60 ∧ (aheadS xs).1 ≤ xs.length := by
  have hr := hall.getD 12
  unfold aheadS at h ⊢
  split
  · rename_i h1; rw [if_pos h1] at h; simp at h
  · rename_i h1
    rw [if_neg h1] at h
    split
    · rename_i h2; rw [if_pos h2] at h; simp at h
    · rename_i h2
      rw [if_neg h2] at h
      split
      · rename_i h3; rw [if_pos h3] at h; simp at h
      · dsimp only
        omega
theorem tcnum2 {xs : List Int} (h : AllB xs) (p : Nat) : 0 ≤ num2 xs p ∧ num2 xs p < 65536 := by
  have h1 := h.getD p
  have h2 := h.getD (p + 1)
  unfold num2
  omega
theorem tcnum4 {xs : List Int} (h : AllB xs) (p : Nat) : 0 ≤ num4 xs p ∧ num4 xs p < 4294967296 := by
  have h1 := h.getD p
  have h2 := h.getD (p + 1)
  have h3 := h.getD (p + 2)
  have h4 := h.getD (p + 3)
  unfold num4
  omega
/-- what lies from block lo on is as it was, where nothing from there on has changed -/
theorem Os.upper {w w' : World} {lo B n : Nat} {A : Option Addr} {os : List Od} (h : Os w B A n os) (hf : OFrom lo A n os) (hk : ∀ p : Addr, lo ≤ p.block → p.block < B → w'.cell? p = w.cell? p) : Os w' B A n os :=
  ⟨h.len, fun o ho => ⟨(h.all o ho).1, (h.all o ho).2.1, (h.all o ho).2.2.len, (h.all o ho).2.2.all, fun hn => by
    obtain ⟨b, p, e, hb, hc⟩ := (h.all o ho).2.2.mem hn
    obtain ⟨b', p', e', hl⟩ := hf.2 o ho hn
    rw [e] at e'
    injection e' with e'
    injection e' with e1 e2 _
    subst e1 e2
    exact ⟨b, p, e, hb, fun i hi => (hk _ hl hb).trans (hc i hi)⟩⟩, fun hn => by
    obtain ⟨b, p, e, hb, hc⟩ := h.mem hn
    obtain ⟨b', p', e', hl⟩ := hf.1 hn
    rw [e] at e'
    injection e' with e'
    injection e' with e1 e2 _
    subst e1 e2
    exact ⟨b, p, e, hb, fun i hi => ⟨(hk _ hl hb).trans (hc i hi).1, (hk _ hl hb).trans (hc i hi).2⟩⟩⟩
/-- a whole segment is stored: no other block changes -/
theorem wpList_store_seg2 {ops : Array Oper} {rest : List Oper} {o : Oper} {a : Act} {w : World} {Q : Exit → Act → World → Prop} (hgd : o.guard = none) (x y : Operand) (ho : o.op = .store 34 x y) (g : Nat) (hx : a.eval x = .pointer (some ⟨g, 0, none⟩)) (t : Sg) (hy : a.eval y = .agg (segC t).toArray) (old : Sg) (hb : BlkS w g old)
    (hk : ∀ w', BlkS w' g t → Below g w w' → (∀ p : Addr, p.block ≠ g → w'.cell? p = w.cell? p) → w'.heap.size = w.heap.size → wpList Tryz.prog ops Q rest (a.put o.dst undef) w') : wpList Tryz.prog ops Q (o :: rest) a w :=
  wpList_store_row hgd 34 x y ho g _ hx hy _ _ hb (by rw [seg_size]; rfl) rfl (segC_one t) (hk _ (BlkV.setRow hb _) (low_setRow _ _ _ (Nat.le_refl _)) (fun p hp => World.cell?_of_block (by simp [World.setRow, Array.getElem?_modify, Ne.symm hp])) (by simp))
/-- the segment when k of its parts are read -/
def segAt (xs : List Int) (oA : Option Addr) (om oc : Nat) (os : List Od) (k : Nat) : Sg :=
  ⟨if 1 ≤ k then num2 xs 0 else 0, if 2 ≤ k then num2 xs 2 else 0, if 3 ≤ k then num4 xs 4 else 0, if 4 ≤ k then num4 xs 8 else 0, if 5 ≤ k then xs.getD 13 0 else 0, if 6 ≤ k then num2 xs 14 else 0, if 7 ≤ k then num2 xs 16 else 0, if 8 ≤ k then num2 xs 18 else 0, oA, om, oc, os, none, 0, 0, []⟩

set_option maxRecDepth 100000 in
set_option maxHeartbeats 1600000 in
theorem tcparse_err (A : Option Addr) (n c : Nat) (xs : List Int) (w : World) (hn : n ≤ 140737488355328) (hc : n ≤ c) (hc2 : c ≤ 9223372036854775807) (hb : Bs w w.heap.size A n xs) (h : (aheadS xs).2 ≠ 0) :
    Calls Tryz.prog 128 #[.slice A n c] w (GivesSF w (parseS xs)) := by
  have HX := Lib.hid (show parseS xs = (zeroSb, (aheadS xs).2) by unfold parseS; rw [if_neg h])
  go_enter Tryz.func128, Tryz.ntmps128
  go_wp2_with ((with_reducible refine wpList_alloc_seg rfl rfl ?_); intro w1 HZ hL hz1; refine Hid.out ?_)
  refine Lib.hid ?_
  replace HZ := Lib.hid HZ
  replace hb := hb.below' hL hL.size
  go_wp2_with fail
  refine (ahead_any A n c xs w1 hn hb).mono ?_
  rintro e w2 ⟨rfl, k, rfl⟩
  replace HZ : Hid (BlkS (w1.drewN k) w.heap.size zeroS) := HZ
  replace hL := below_drewN hL k
  clear hb hz1
  generalize w1.drewN k = w3 at *
  generalize (aheadS xs).1 = m at *
  obtain ⟨x, hx⟩ : ∃ x, x = (aheadS xs).2 := ⟨_, rfl⟩
  rw [← hx] at h HX ⊢
  clear hx
  go_wp2_with ((refine wpList_store_seg rfl (.tmp 2) (.tmp 17) rfl w.heap.size rfl zeroS rfl zeroS HZ.out ?_); intro w4 HG hb4 hz4)
  exact ret_seg Tryz.results128 rfl rfl HG (GivesSF.of HX.out rfl (zeroS_ok _ _) (Below.trans hL hb4) (zeroS_from _)) rfl
end Go.Proofs.YtdpbhhoabnmbpaaGreat

namespace Go.Proofs.YtdpbhhoabnmbpaaGreat
open Go.RowKit
set_option linter.unusedVariables false

theorem tcpart_size : (Tryz.prog.info? 198).map (·.size) = some 2 := by kernel_rfl
theorem tcpart_zero : (Tryz.prog.info? 198).map (·.zero) = some (some (.agg [Value.int .i64 0, Value.nilFunc].toArray)) := by kernel_rfl

set_option maxRecDepth 100000 in
set_option maxHeartbeats 1600000 in
theorem tcparse_yes (A : Option Addr) (n c : Nat) (xs : List Int) (w : World) (hn0 : n ≤ 140737488351232) (hc : n ≤ c) (hc2 : c ≤ 9223372036854775807) (hb : Bs w w.heap.size A n xs) (h : (aheadS xs).2 = 0) :
    Calls Tryz.prog 128 #[.slice A n c] w (GivesSF w (parseS xs)) := by
  have hn : n ≤ 140737488355328 := by omega
  have HX := Lib.hid (show parseS xs = if (parseL ((xs.take (aheadS xs).1).drop 20)).2 = 0 then (segS xs (aheadS xs).1 (parseL ((xs.take (aheadS xs).1).drop 20)).1, 0) else (zeroSb, (parseL ((xs.take (aheadS xs).1).drop 20)).2) by unfold parseS; rw [if_pos h])
  obtain ⟨hm1, hm2, hm3⟩ := aheadS_ok hb.all h
  rw [hb.len] at hm3
  have HA := Lib.hid h
  clear h
  obtain ⟨b, o, rfl, hbl, -⟩ := hb.mem (by omega)
  have HB := Lib.hid hb
  go_enter Tryz.func128, Tryz.ntmps128
  go_wp2_with ((with_reducible refine wpList_alloc_seg rfl rfl ?_); intro w1 HZ hL hz1; refine Hid.out ?_)
  refine Lib.hid ?_
  replace HZ := Lib.hid HZ
  replace hb := hb.below' hL hL.size
  go_wp2_with fail
  refine (ahead_any _ n c xs w1 hn hb).mono ?_
  rintro e w2 ⟨rfl, k, rfl⟩
  rw [HA.out]
  replace HZ : Hid (BlkS (w1.drewN k) w.heap.size zeroS) := HZ
  replace hL := below_drewN hL k
  have hsz3 : (w1.drewN k).heap.size = w.heap.size + 1 := hz1
  clear hb hz1
  generalize w1.drewN k = w3 at *
  obtain ⟨m, hm⟩ : ∃ m, m = (aheadS xs).1 := ⟨_, rfl⟩
  rw [← hm] at HX hm1 hm2 hm3 ⊢
  clear hm HA
  obtain ⟨A', hcut, hA'⟩ := run_mid b o n c m hn hm1 hm3 hc hc2
  have hmid := (HB.out.below' hL hL.size).at_mid (s := 20) (m := m) hm1 hm3 hA'
  have HCUT := Lib.hid (hcut w3)
  clear hA' hcut
  generalize (xs.take m).drop 20 = ys at *
  go_wp2_with ((refine wpList_slice rfl 22 (.tmp 20) (some (.const (.int .i64 20))) (some (.tmp 21)) none rfl (.slice A' (m - 20) (c - 20)) HCUT.out ?_); refine Hid.out ?_)
  refine Lib.hid ?_
  go_wp2_with fail
  refine (tparse_any A' (m - 20) (c - 20) ys w3 (by omega) (by omega) (by omega) hmid).mono ?_
  rintro e w4 ⟨oA, oc, os, rfl, hov, hos, hB4, hof⟩
  have hrl := parseL_len ys
  generalize parseL ys = r at *
  obtain ⟨ol, re⟩ := r
  dsimp only at hov hos hof hrl HX ⊢
  replace HZ := Lib.hid (HZ.out.below hB4 HZ.out.lt)
  have hL4 : Low w w4 := Below.trans hL (hB4.mono hL.size)
  clear hmid HCUT hB4
  by_cases hre : re = 0
  · rw [if_pos hre] at HX
    subst hre
    obtain ⟨om, hom⟩ : ∃ om, om = ol.length := ⟨_, rfl⟩
    rw [← hom] at hos hof hrl ⊢
    clear hom
    have HOF := Lib.hid hof
    have hR3 : w.heap.size < w3.heap.size := by rw [hsz3]; omega
    clear hof hsz3
    have HOS := Lib.hid hos
    have HOV := Lib.hid hov
    clear hos hov hL
    go_wp2_with ((with_reducible refine wpList_alloc_seg rfl rfl ?_); intro w5 HN hL5 hz5; refine Hid.out ?_)
    refine Lib.hid ?_
    replace HN := Lib.hid HN
    go_wp2_with ((refine wpList_store_seg rfl (.tmp 7) (.tmp 31) rfl w4.heap.size rfl (segAt xs oA om oc os 0) rfl zeroS HN.out ?_); intro w6 HT hb6 hz6; refine Hid.out ?_)
    refine Lib.hid ?_
    replace hL5 : Low w4 w6 := Below.trans hL5 hb6
    replace HT := Lib.hid HT
    clear HN hb6
    go_wp2_with fail
    refine (parts_any w6).mono ?_
    rintro e w7 ⟨rfl, hP, hL7, hz7⟩
    replace hL5 := Low.trans hL5 hL7
    replace HT := Lib.hid (HT.out.below hL7 HT.out.lt)
    rw [hz6, hz5] at hP ⊢
    have hsz : w7.heap.size = w4.heap.size + 2 := by omega
    have HP := Lib.hid hP
    clear hP hL7 hz5 hz6 hz7
    go_wp2_with fail
    go_loopw [34] (fun i wr => ∃ k : Nat, k ≤ 8 ∧ i = .int .i64 k ∧ Hid (BlkS wr w4.heap.size (segAt xs oA om oc os k) ∧ BlkV wr 198 (w4.heap.size + 1) partsC ∧ Low w4 wr)) (fun i _ => 8 - (intOf i).toNat)
    case atStart => exact ⟨0, by omega, rfl, Lib.hid ⟨HT.out, HP.out, hL5⟩⟩
    case round =>
      clear HT HP hL5 hsz
      obtain ⟨k, hk, rfl, HR⟩ := hrel
      obtain rfl | rfl | rfl | rfl | rfl | rfl | rfl | rfl | rfl : k = 0 ∨ k = 1 ∨ k = 2 ∨ k = 3 ∨ k = 4 ∨ k = 5 ∨ k = 6 ∨ k = 7 ∨ k = 8 := by omega
      · have d0 : wr.cell? ⟨w4.heap.size + 1, 0, none⟩ = some (.int .i64 0) := HR.out.2.1.cell 0
        have d1 : wr.cell? ⟨w4.heap.size + 1, 1, none⟩ = some (.func (.func 144) #[] #[]) := HR.out.2.1.cell 1
        go_wp2_with (first
          | ((with_reducible refine wpList_alloc_v rfl 198 rfl [.int .i64 0, .nilFunc] tcpart_zero ?_); intro w8 HZ8 hl8 hz8; replace HZ8 := Lib.hid HZ8)
          | ((refine wpList_store_v rfl 198 (.tmp 9) (.tmp 37) rfl wr.heap.size rfl [.int .i64 0, .func (.func 144) #[] #[]] rfl _ _ HZ8.out rfl (by rw [tcpart_size]; rfl) (by simp [Value.oneCell']) ?_); intro w9 HP9 hb9 hz9; refine Hid.out ?_))
        refine Lib.hid ?_
        have hl9 : Low wr w9 := Below.trans hl8 hb9
        have e0 := HP9.cell 0
        have e1 := HP9.cell 1
        replace e0 : _ = some (Value.int .i64 0) := e0
        replace e1 : _ = some (Value.func (.func 144) #[] #[]) := e1
        clear HZ8 hl8 hz8 hb9 hz9 d0 d1 HP9
        have HR9 := Lib.hid (show BlkS w9 w4.heap.size (segAt xs oA om oc os 0) ∧ BlkV w9 198 (w4.heap.size + 1) partsC ∧ Low w4 w9 from ⟨HR.out.1.below hl9 HR.out.1.lt, HR.out.2.1.below hl9 HR.out.2.1.lt, Low.trans HR.out.2.2 hl9⟩)
        clear hl9 HR
        go_wp2_with fail
        refine (part1_any (some ⟨b, o, none⟩) n c w4.heap.size xs (segAt xs oA om oc os 0) w9 hn (by omega) ((HB.out.below' hL4 hL4.size).below HR9.out.2.2) HR9.out.1).mono ?_
        rintro e w10 ⟨rfl, hS, hbT, hoth⟩
        have HR10 : Hid (BlkS w10 w4.heap.size (segAt xs oA om oc os 1) ∧ BlkV w10 198 (w4.heap.size + 1) partsC ∧ Low w4 w10) := Lib.hid ⟨hS, (hoth _ (by omega)).trans HR9.out.2.1, Below.trans HR9.out.2.2 hbT⟩
        clear hS hbT hoth HR9 e0 e1
        go_wp2_with fail
        go_roundw
        case rel => exact ⟨1, by omega, rfl, HR10⟩
        case measure => simp [intOf]
      · have d0 : wr.cell? ⟨w4.heap.size + 1, 2, none⟩ = some (.int .i64 2) := HR.out.2.1.cell 2
        have d1 : wr.cell? ⟨w4.heap.size + 1, 3, none⟩ = some (.func (.func 145) #[] #[]) := HR.out.2.1.cell 3
        go_wp2_with (first
          | ((with_reducible refine wpList_alloc_v rfl 198 rfl [.int .i64 0, .nilFunc] tcpart_zero ?_); intro w8 HZ8 hl8 hz8; replace HZ8 := Lib.hid HZ8)
          | ((refine wpList_store_v rfl 198 (.tmp 9) (.tmp 37) rfl wr.heap.size rfl [.int .i64 2, .func (.func 145) #[] #[]] rfl _ _ HZ8.out rfl (by rw [tcpart_size]; rfl) (by simp [Value.oneCell']) ?_); intro w9 HP9 hb9 hz9; refine Hid.out ?_))
        refine Lib.hid ?_
        have hl9 : Low wr w9 := Below.trans hl8 hb9
        have e0 := HP9.cell 0
        have e1 := HP9.cell 1
        replace e0 : _ = some (Value.int .i64 2) := e0
        replace e1 : _ = some (Value.func (.func 145) #[] #[]) := e1
        clear HZ8 hl8 hz8 hb9 hz9 d0 d1 HP9
        have HR9 := Lib.hid (show BlkS w9 w4.heap.size (segAt xs oA om oc os 1) ∧ BlkV w9 198 (w4.heap.size + 1) partsC ∧ Low w4 w9 from ⟨HR.out.1.below hl9 HR.out.1.lt, HR.out.2.1.below hl9 HR.out.2.1.lt, Low.trans HR.out.2.2 hl9⟩)
        clear hl9 HR
        go_wp2_with fail
        refine (part2_any (some ⟨b, o, none⟩) n c w4.heap.size xs (segAt xs oA om oc os 1) w9 hn (by omega) ((HB.out.below' hL4 hL4.size).below HR9.out.2.2) HR9.out.1).mono ?_
        rintro e w10 ⟨rfl, hS, hbT, hoth⟩
        have HR10 : Hid (BlkS w10 w4.heap.size (segAt xs oA om oc os 2) ∧ BlkV w10 198 (w4.heap.size + 1) partsC ∧ Low w4 w10) := Lib.hid ⟨hS, (hoth _ (by omega)).trans HR9.out.2.1, Below.trans HR9.out.2.2 hbT⟩
        clear hS hbT hoth HR9 e0 e1
        go_wp2_with fail
        go_roundw
        case rel => exact ⟨2, by omega, rfl, HR10⟩
        case measure => simp [intOf]
      · have d0 : wr.cell? ⟨w4.heap.size + 1, 4, none⟩ = some (.int .i64 4) := HR.out.2.1.cell 4
        have d1 : wr.cell? ⟨w4.heap.size + 1, 5, none⟩ = some (.func (.func 146) #[] #[]) := HR.out.2.1.cell 5
        go_wp2_with (first
          | ((with_reducible refine wpList_alloc_v rfl 198 rfl [.int .i64 0, .nilFunc] tcpart_zero ?_); intro w8 HZ8 hl8 hz8; replace HZ8 := Lib.hid HZ8)
          | ((refine wpList_store_v rfl 198 (.tmp 9) (.tmp 37) rfl wr.heap.size rfl [.int .i64 4, .func (.func 146) #[] #[]] rfl _ _ HZ8.out rfl (by rw [tcpart_size]; rfl) (by simp [Value.oneCell']) ?_); intro w9 HP9 hb9 hz9; refine Hid.out ?_))
        refine Lib.hid ?_
        have hl9 : Low wr w9 := Below.trans hl8 hb9
        have e0 := HP9.cell 0
        have e1 := HP9.cell 1
        replace e0 : _ = some (Value.int .i64 4) := e0
        replace e1 : _ = some (Value.func (.func 146) #[] #[]) := e1
        clear HZ8 hl8 hz8 hb9 hz9 d0 d1 HP9
        have HR9 := Lib.hid (show BlkS w9 w4.heap.size (segAt xs oA om oc os 2) ∧ BlkV w9 198 (w4.heap.size + 1) partsC ∧ Low w4 w9 from ⟨HR.out.1.below hl9 HR.out.1.lt, HR.out.2.1.below hl9 HR.out.2.1.lt, Low.trans HR.out.2.2 hl9⟩)
        clear hl9 HR
        go_wp2_with fail
        refine (part3_any (some ⟨b, o, none⟩) n c w4.heap.size xs (segAt xs oA om oc os 2) w9 hn (by omega) ((HB.out.below' hL4 hL4.size).below HR9.out.2.2) HR9.out.1).mono ?_
        rintro e w10 ⟨rfl, hS, hbT, hoth⟩
        have HR10 : Hid (BlkS w10 w4.heap.size (segAt xs oA om oc os 3) ∧ BlkV w10 198 (w4.heap.size + 1) partsC ∧ Low w4 w10) := Lib.hid ⟨hS, (hoth _ (by omega)).trans HR9.out.2.1, Below.trans HR9.out.2.2 hbT⟩
        clear hS hbT hoth HR9 e0 e1
        go_wp2_with fail
        go_roundw
        case rel => exact ⟨3, by omega, rfl, HR10⟩
        case measure => simp [intOf]
      · have d0 : wr.cell? ⟨w4.heap.size + 1, 6, none⟩ = some (.int .i64 8) := HR.out.2.1.cell 6
        have d1 : wr.cell? ⟨w4.heap.size + 1, 7, none⟩ = some (.func (.func 147) #[] #[]) := HR.out.2.1.cell 7
        go_wp2_with (first
          | ((with_reducible refine wpList_alloc_v rfl 198 rfl [.int .i64 0, .nilFunc] tcpart_zero ?_); intro w8 HZ8 hl8 hz8; replace HZ8 := Lib.hid HZ8)
          | ((refine wpList_store_v rfl 198 (.tmp 9) (.tmp 37) rfl wr.heap.size rfl [.int .i64 8, .func (.func 147) #[] #[]] rfl _ _ HZ8.out rfl (by rw [tcpart_size]; rfl) (by simp [Value.oneCell']) ?_); intro w9 HP9 hb9 hz9; refine Hid.out ?_))
        refine Lib.hid ?_
        have hl9 : Low wr w9 := Below.trans hl8 hb9
        have e0 := HP9.cell 0
        have e1 := HP9.cell 1
        replace e0 : _ = some (Value.int .i64 8) := e0
        replace e1 : _ = some (Value.func (.func 147) #[] #[]) := e1
        clear HZ8 hl8 hz8 hb9 hz9 d0 d1 HP9
        have HR9 := Lib.hid (show BlkS w9 w4.heap.size (segAt xs oA om oc os 3) ∧ BlkV w9 198 (w4.heap.size + 1) partsC ∧ Low w4 w9 from ⟨HR.out.1.below hl9 HR.out.1.lt, HR.out.2.1.below hl9 HR.out.2.1.lt, Low.trans HR.out.2.2 hl9⟩)
        clear hl9 HR
        go_wp2_with fail
        refine (part4_any (some ⟨b, o, none⟩) n c w4.heap.size xs (segAt xs oA om oc os 3) w9 hn (by omega) ((HB.out.below' hL4 hL4.size).below HR9.out.2.2) HR9.out.1).mono ?_
        rintro e w10 ⟨rfl, hS, hbT, hoth⟩
        have HR10 : Hid (BlkS w10 w4.heap.size (segAt xs oA om oc os 4) ∧ BlkV w10 198 (w4.heap.size + 1) partsC ∧ Low w4 w10) := Lib.hid ⟨hS, (hoth _ (by omega)).trans HR9.out.2.1, Below.trans HR9.out.2.2 hbT⟩
        clear hS hbT hoth HR9 e0 e1
        go_wp2_with fail
        go_roundw
        case rel => exact ⟨4, by omega, rfl, HR10⟩
        case measure => simp [intOf]
      · have d0 : wr.cell? ⟨w4.heap.size + 1, 8, none⟩ = some (.int .i64 13) := HR.out.2.1.cell 8
        have d1 : wr.cell? ⟨w4.heap.size + 1, 9, none⟩ = some (.func (.func 148) #[] #[]) := HR.out.2.1.cell 9
        go_wp2_with (first
          | ((with_reducible refine wpList_alloc_v rfl 198 rfl [.int .i64 0, .nilFunc] tcpart_zero ?_); intro w8 HZ8 hl8 hz8; replace HZ8 := Lib.hid HZ8)
          | ((refine wpList_store_v rfl 198 (.tmp 9) (.tmp 37) rfl wr.heap.size rfl [.int .i64 13, .func (.func 148) #[] #[]] rfl _ _ HZ8.out rfl (by rw [tcpart_size]; rfl) (by simp [Value.oneCell']) ?_); intro w9 HP9 hb9 hz9; refine Hid.out ?_))
        refine Lib.hid ?_
        have hl9 : Low wr w9 := Below.trans hl8 hb9
        have e0 := HP9.cell 0
        have e1 := HP9.cell 1
        replace e0 : _ = some (Value.int .i64 13) := e0
        replace e1 : _ = some (Value.func (.func 148) #[] #[]) := e1
        clear HZ8 hl8 hz8 hb9 hz9 d0 d1 HP9
        have HR9 := Lib.hid (show BlkS w9 w4.heap.size (segAt xs oA om oc os 4) ∧ BlkV w9 198 (w4.heap.size + 1) partsC ∧ Low w4 w9 from ⟨HR.out.1.below hl9 HR.out.1.lt, HR.out.2.1.below hl9 HR.out.2.1.lt, Low.trans HR.out.2.2 hl9⟩)
        clear hl9 HR
        go_wp2_with fail
        refine (part5_any (some ⟨b, o, none⟩) n c w4.heap.size xs (segAt xs oA om oc os 4) w9 hn (by omega) ((HB.out.below' hL4 hL4.size).below HR9.out.2.2) HR9.out.1).mono ?_
        rintro e w10 ⟨rfl, hS, hbT, hoth⟩
        have HR10 : Hid (BlkS w10 w4.heap.size (segAt xs oA om oc os 5) ∧ BlkV w10 198 (w4.heap.size + 1) partsC ∧ Low w4 w10) := Lib.hid ⟨hS, (hoth _ (by omega)).trans HR9.out.2.1, Below.trans HR9.out.2.2 hbT⟩
        clear hS hbT hoth HR9 e0 e1
        go_wp2_with fail
        go_roundw
        case rel => exact ⟨5, by omega, rfl, HR10⟩
        case measure => simp [intOf]
      · have d0 : wr.cell? ⟨w4.heap.size + 1, 10, none⟩ = some (.int .i64 14) := HR.out.2.1.cell 10
        have d1 : wr.cell? ⟨w4.heap.size + 1, 11, none⟩ = some (.func (.func 149) #[] #[]) := HR.out.2.1.cell 11
        go_wp2_with (first
          | ((with_reducible refine wpList_alloc_v rfl 198 rfl [.int .i64 0, .nilFunc] tcpart_zero ?_); intro w8 HZ8 hl8 hz8; replace HZ8 := Lib.hid HZ8)
          | ((refine wpList_store_v rfl 198 (.tmp 9) (.tmp 37) rfl wr.heap.size rfl [.int .i64 14, .func (.func 149) #[] #[]] rfl _ _ HZ8.out rfl (by rw [tcpart_size]; rfl) (by simp [Value.oneCell']) ?_); intro w9 HP9 hb9 hz9; refine Hid.out ?_))
        refine Lib.hid ?_
        have hl9 : Low wr w9 := Below.trans hl8 hb9
        have e0 := HP9.cell 0
        have e1 := HP9.cell 1
        replace e0 : _ = some (Value.int .i64 14) := e0
        replace e1 : _ = some (Value.func (.func 149) #[] #[]) := e1
        clear HZ8 hl8 hz8 hb9 hz9 d0 d1 HP9
        have HR9 := Lib.hid (show BlkS w9 w4.heap.size (segAt xs oA om oc os 5) ∧ BlkV w9 198 (w4.heap.size + 1) partsC ∧ Low w4 w9 from ⟨HR.out.1.below hl9 HR.out.1.lt, HR.out.2.1.below hl9 HR.out.2.1.lt, Low.trans HR.out.2.2 hl9⟩)
        clear hl9 HR
        go_wp2_with fail
        refine (part6_any (some ⟨b, o, none⟩) n c w4.heap.size xs (segAt xs oA om oc os 5) w9 hn (by omega) ((HB.out.below' hL4 hL4.size).below HR9.out.2.2) HR9.out.1).mono ?_
        rintro e w10 ⟨rfl, hS, hbT, hoth⟩
        have HR10 : Hid (BlkS w10 w4.heap.size (segAt xs oA om oc os 6) ∧ BlkV w10 198 (w4.heap.size + 1) partsC ∧ Low w4 w10) := Lib.hid ⟨hS, (hoth _ (by omega)).trans HR9.out.2.1, Below.trans HR9.out.2.2 hbT⟩
        clear hS hbT hoth HR9 e0 e1
        go_wp2_with fail
        go_roundw
        case rel => exact ⟨6, by omega, rfl, HR10⟩
        case measure => simp [intOf]
      · have d0 : wr.cell? ⟨w4.heap.size + 1, 12, none⟩ = some (.int .i64 16) := HR.out.2.1.cell 12
        have d1 : wr.cell? ⟨w4.heap.size + 1, 13, none⟩ = some (.func (.func 150) #[] #[]) := HR.out.2.1.cell 13
        go_wp2_with (first
          | ((with_reducible refine wpList_alloc_v rfl 198 rfl [.int .i64 0, .nilFunc] tcpart_zero ?_); intro w8 HZ8 hl8 hz8; replace HZ8 := Lib.hid HZ8)
          | ((refine wpList_store_v rfl 198 (.tmp 9) (.tmp 37) rfl wr.heap.size rfl [.int .i64 16, .func (.func 150) #[] #[]] rfl _ _ HZ8.out rfl (by rw [tcpart_size]; rfl) (by simp [Value.oneCell']) ?_); intro w9 HP9 hb9 hz9; refine Hid.out ?_))
        refine Lib.hid ?_
        have hl9 : Low wr w9 := Below.trans hl8 hb9
        have e0 := HP9.cell 0
        have e1 := HP9.cell 1
        replace e0 : _ = some (Value.int .i64 16) := e0
        replace e1 : _ = some (Value.func (.func 150) #[] #[]) := e1
        clear HZ8 hl8 hz8 hb9 hz9 d0 d1 HP9
        have HR9 := Lib.hid (show BlkS w9 w4.heap.size (segAt xs oA om oc os 6) ∧ BlkV w9 198 (w4.heap.size + 1) partsC ∧ Low w4 w9 from ⟨HR.out.1.below hl9 HR.out.1.lt, HR.out.2.1.below hl9 HR.out.2.1.lt, Low.trans HR.out.2.2 hl9⟩)
        clear hl9 HR
        go_wp2_with fail
        refine (part7_any (some ⟨b, o, none⟩) n c w4.heap.size xs (segAt xs oA om oc os 6) w9 hn (by omega) ((HB.out.below' hL4 hL4.size).below HR9.out.2.2) HR9.out.1).mono ?_
        rintro e w10 ⟨rfl, hS, hbT, hoth⟩
        have HR10 : Hid (BlkS w10 w4.heap.size (segAt xs oA om oc os 7) ∧ BlkV w10 198 (w4.heap.size + 1) partsC ∧ Low w4 w10) := Lib.hid ⟨hS, (hoth _ (by omega)).trans HR9.out.2.1, Below.trans HR9.out.2.2 hbT⟩
        clear hS hbT hoth HR9 e0 e1
        go_wp2_with fail
        go_roundw
        case rel => exact ⟨7, by omega, rfl, HR10⟩
        case measure => simp [intOf]
      · have d0 : wr.cell? ⟨w4.heap.size + 1, 14, none⟩ = some (.int .i64 18) := HR.out.2.1.cell 14
        have d1 : wr.cell? ⟨w4.heap.size + 1, 15, none⟩ = some (.func (.func 151) #[] #[]) := HR.out.2.1.cell 15
        go_wp2_with (first
          | ((with_reducible refine wpList_alloc_v rfl 198 rfl [.int .i64 0, .nilFunc] tcpart_zero ?_); intro w8 HZ8 hl8 hz8; replace HZ8 := Lib.hid HZ8)
          | ((refine wpList_store_v rfl 198 (.tmp 9) (.tmp 37) rfl wr.heap.size rfl [.int .i64 18, .func (.func 151) #[] #[]] rfl _ _ HZ8.out rfl (by rw [tcpart_size]; rfl) (by simp [Value.oneCell']) ?_); intro w9 HP9 hb9 hz9; refine Hid.out ?_))
        refine Lib.hid ?_
        have hl9 : Low wr w9 := Below.trans hl8 hb9
        have e0 := HP9.cell 0
        have e1 := HP9.cell 1
        replace e0 : _ = some (Value.int .i64 18) := e0
        replace e1 : _ = some (Value.func (.func 151) #[] #[]) := e1
        clear HZ8 hl8 hz8 hb9 hz9 d0 d1 HP9
        have HR9 := Lib.hid (show BlkS w9 w4.heap.size (segAt xs oA om oc os 7) ∧ BlkV w9 198 (w4.heap.size + 1) partsC ∧ Low w4 w9 from ⟨HR.out.1.below hl9 HR.out.1.lt, HR.out.2.1.below hl9 HR.out.2.1.lt, Low.trans HR.out.2.2 hl9⟩)
        clear hl9 HR
        go_wp2_with fail
        refine (part8_any (some ⟨b, o, none⟩) n c w4.heap.size xs (segAt xs oA om oc os 7) w9 hn (by omega) ((HB.out.below' hL4 hL4.size).below HR9.out.2.2) HR9.out.1).mono ?_
        rintro e w10 ⟨rfl, hS, hbT, hoth⟩
        have HR10 : Hid (BlkS w10 w4.heap.size (segAt xs oA om oc os 8) ∧ BlkV w10 198 (w4.heap.size + 1) partsC ∧ Low w4 w10) := Lib.hid ⟨hS, (hoth _ (by omega)).trans HR9.out.2.1, Below.trans HR9.out.2.2 hbT⟩
        clear hS hbT hoth HR9 e0 e1
        go_wp2_with fail
        go_roundw
        case rel => exact ⟨8, by omega, rfl, HR10⟩
        case measure => simp [intOf]
      · have hbs := HB.out.below' hL4 hL4.size
        have hbr := hbs.below' HR.out.2.2 HR.out.2.2.size
        have hdr : (xs.drop m).take (n - m) = xs.drop m := List.take_of_length_le (by rw [List.length_drop, HB.out.len]; omega)
        have HBR := Lib.hid hbr
        clear hbs hbr
        go_wp2_with fail
        refine (cut_yes (some ⟨b, o, none⟩) n c _ _ m (n - m) xs wr hn hc hc2 HBR.out rfl (by omega) (by omega)).mono ?_
        rintro e w11 ⟨v, rfl, g, rfl, hg, hkg, hlg, hag, hB11⟩
        rw [hdr] at hkg hlg hag
        have HS11 := Lib.hid (HR.out.1.below hB11 HR.out.1.lt)
        have hL11 : Low w4 w11 := Low.trans HR.out.2.2 hB11
        have hTg : w4.heap.size < g := Nat.lt_of_lt_of_le HR.out.1.lt hg
        have f9 := HS11.out.frozen 9
        have c9 := (BlkS.cells HS11.out).2.2.2.2.2.2.2.2.2
        have HKG := Lib.hid (Blk.far hkg (p := ⟨w4.heap.size, 9, none⟩) (by show g ≠ w4.heap.size; omega) (.slice (some ⟨g, 0, none⟩) (n - m) (n - m)))
        have HT9 : Hid (BlkS (w11.setCell ⟨w4.heap.size, 9, none⟩ (.slice (some ⟨g, 0, none⟩) (n - m) (n - m))) w4.heap.size ⟨num2 xs 0, num2 xs 2, num4 xs 4, num4 xs 8, xs.getD 13 0, num2 xs 14, num2 xs 16, num2 xs 18, oA, om, oc, os, some ⟨g, 0, none⟩, n - m, n - m, xs.drop m⟩) := Lib.hid (HS11.out.set_ 9 (.slice (some ⟨g, 0, none⟩) (n - m) (n - m)))
        have hL12 : Low w4 (w11.setCell ⟨w4.heap.size, 9, none⟩ (.slice (some ⟨g, 0, none⟩) (n - m) (n - m))) := hL11.setCell (Nat.le_refl _) _
        have HLG := Lib.hid hlg
        have HAG := Lib.hid hag
        clear hg hkg hlg hag hB11 HS11 hL11 HR HBR
        go_wp2_with (with_reducible refine wpList_load_seg rfl (.tmp 7) rfl w4.heap.size rfl _ HT9.out (Hid.out ?_))
        refine Lib.hid ?_
        clear f9 c9
        generalize w11.setCell ⟨w4.heap.size, 9, none⟩ (.slice (some ⟨g, 0, none⟩) (n - m) (n - m)) = w12 at *
        replace HZ := Lib.hid (HZ.out.below hL12 HZ.out.lt)
        go_wp2_with ((refine wpList_store_seg2 rfl (.tmp 2) (.tmp 56) rfl w.heap.size rfl ⟨num2 xs 0, num2 xs 2, num4 xs 4, num4 xs 8, xs.getD 13 0, num2 xs 14, num2 xs 16, num2 xs 18, oA, om, oc, os, some ⟨g, 0, none⟩, n - m, n - m, xs.drop m⟩ rfl zeroS HZ.out ?_); intro w13 HG hb13 hoth hz13)
        have hall := HB.out.all
        have n0 := tcnum2 hall 0
        have n2 := tcnum2 hall 2
        have n4 := tcnum4 hall 4
        have n8 := tcnum4 hall 8
        have n13 := hall.getD 13
        have n14 := tcnum2 hall 14
        have n16 := tcnum2 hall 16
        have n18 := tcnum2 hall 18
        have hos12 := (HOS.out.below' hL12 hL12.size).upper HOF.out (w' := w13) fun p h1 h2 => hoth p (by omega)
        have hpg := HKG.out.bs (B := w12.heap.size) HAG.out HKG.out.lt HLG.out
        have hpg13 : Bs w13 w12.heap.size (some ⟨g, 0, none⟩) (n - m) (xs.drop m) := ⟨hpg.len, hpg.all, fun h => by
          obtain ⟨b', o', e', hb', hc'⟩ := hpg.mem h
          injection e' with e'
          injection e' with e1 e2 _
          subst e1 e2
          refine ⟨_, _, rfl, hb', fun i hi => (hoth _ ?_).trans (hc' i hi)⟩
          show g ≠ w.heap.size
          have := hL4.size
          omega⟩
        rw [← hz13] at hos12 hpg13
        refine ret_seg Tryz.results128 rfl rfl HG (GivesSF.of HX.out ?_ ⟨?_, ?_, n4, n8, ?_, ?_, ?_, ?_, ?_, hos12, ?_, hpg13⟩ ?_ ⟨HOF.out.lessS (by have := hL4.size; omega), fun _ => ⟨g, 0, rfl, by have := hL4.size; omega⟩⟩) rfl
        · show Sb.mk _ _ _ _ _ _ _ _ (os.map Od.v) _ = _
          rw [HOV.out]
          rfl
        · unfold i64ok; dsimp only; omega
        · unfold i64ok; dsimp only; omega
        · unfold i64ok; dsimp only; omega
        · unfold i64ok; dsimp only; omega
        · unfold i64ok; dsimp only; omega
        · unfold i64ok; dsimp only; omega
        · dsimp only; omega
        · dsimp only; omega
        · exact Below.trans (Low.trans hL4 hL12) hb13
  · rw [if_neg hre] at HX
    clear hos hov hof
    generalize ol.length = om at *
    go_wp2_with ((refine wpList_store_seg rfl (.tmp 2) (.tmp 28) rfl w.heap.size rfl zeroS rfl zeroS HZ.out ?_); intro w5 HG hb5 hz5)
    exact ret_seg Tryz.results128 rfl rfl HG (GivesSF.of HX.out rfl (zeroS_ok _ _) (Below.trans hL4 hb5) (zeroS_from _)) rfl

theorem tcparse_anyF (A : Option Addr) (n c : Nat) (xs : List Int) (w : World) (hn0 : n ≤ 140737488351232) (hc : n ≤ c) (hc2 : c ≤ 9223372036854775807) (hb : Bs w w.heap.size A n xs) :
    Calls Tryz.prog 128 #[.slice A n c] w (GivesSF w (parseS xs)) := by
  by_cases h : (aheadS xs).2 = 0
  · exact tcparse_yes A n c xs w hn0 hc hc2 hb h
  · exact tcparse_err A n c xs w (by omega) hc hc2 hb h
end Go.Proofs.YtdpbhhoabnmbpaaGreat

namespace Go.Proofs.YtdpbhhoabnmbpaaGreat
open Go.RowKit
set_option linter.unusedVariables false

end Go.Proofs.YtdpbhhoabnmbpaaGreat
