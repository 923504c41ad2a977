/- What the document's own Put tells of any header. Conditions: the header's numbers are ints, its addresses 16 bytes. -/
import Derived.Test.YtpaikenchbeenaaSxC
import Derived.Test.YtpaikenchbeenaaSxD
import Derived.Test.YtpaikenchbeenaaRefA
namespace Go.Proofs.Ytpaikenchbeenaa
open Go.RowKit
set_option linter.unusedVariables false

/-- the call hands back ys, in a row of its own that may have room; what was there is as it was -/
def OwnOut (t : TypeId) (w : World) (n : Nat) (ys : List Int) (v : Value) (w' : World) : Prop :=
  ∃ A c, v = .slice A n c ∧ OwnB t w' w.heap.size A n c ys ∧ Below w.heap.size w w'
theorem OwnB.lower {t : TypeId} {w : World} {base base' n c : Nat} {A : Option Addr} {ys : List Int} (h : OwnB t w base A n c ys) (hb : base' ≤ base) : OwnB t w base' A n c ys :=
  ⟨⟨h.1.1, h.1.2.imp id fun ⟨g, cap, cur, e, hbg, r⟩ => ⟨g, cap, cur, e, Nat.le_trans hb hbg, r⟩⟩, h.2⟩
theorem headL_split (h : Hd) (hc : canB h = true) : headL h = [96 + h.cl / 16, h.cl % 16 * 16 + h.lb / 65536] ++ two (h.lb % 65536) ++ two h.ln ++ [h.nx, h.hp] ++ h.s ++ h.d := by
  obtain ⟨h0, h1, -, -, -⟩ := can_range hc
  unfold headL
  have e : four (firstN h) = [96 + h.cl / 16, h.cl % 16 * 16 + h.lb / 65536] ++ two (h.lb % 65536) := by
    unfold four two firstN
    simp only [List.cons_append, List.nil_append]
    congr 1
    · omega
    congr 1
    · omega
    congr 1
    · omega
    congr 1
    omega
  rw [e]
  simp only [List.append_assoc]

set_option maxHeartbeats 1600000 in
set_option maxRecDepth 100000 in
theorem rput_yes (h : Hd) (w : World) (hk : h.ok) (hc : canB h = true) :
    Calls Try.prog 11 #[headV h] w fun e w' => ∃ v, e = .returned v ∧ OwnOut 5 w 40 (headL h) v w' := by
  obtain ⟨i0, hi, hz0, hz1, hz2⟩ := info_parts info5
  have HI := Lib.hid hi
  have HZ0 := Lib.hid hz0
  have HZ1 := Lib.hid hz1
  have HZ2 := Lib.hid hz2
  clear hi hz0 hz1 hz2
  unfold headV
  have HO := Lib.hid hk
  have HC := Lib.hid hc
  clear hk hc
  go_enter Try.func11, Try.ntmps11
  go_wp2_with ((with_reducible refine wpList_box_v rfl 25 (.tmp 0) rfl (headC h) rfl ?_); intro w1 HB hL hz1; refine Hid.out ?_)
  refine Lib.hid ?_
  replace HB := Lib.hid HB
  clear hz1
  go_wp2_with (with_reducible refine wpList_load_head rfl (.tmp 1) rfl w.heap.size rfl h HB.out HO.out.s HO.out.d ?_)
  refine (rcan_any h w1 HO.out).mono ?_
  rintro e w2 ⟨rfl, hl⟩
  replace HB := Lib.hid (HB.out.below hl HB.out.lt)
  replace hL := hL.trans hl
  clear hl
  rw [show canE h = 0 by unfold canE; rw [if_pos HC.out]]
  obtain ⟨h0, h1, h2, h3, h4⟩ := can_range HC.out
  have hgs := HB.out.lt
  have c0 := HB.out.cell 0; have c1 := HB.out.cell 1; have c2 := HB.out.cell 2; have c3 := HB.out.cell 3; have c4 := HB.out.cell 4
  replace c0 : _ = some (Value.int .i64 h.cl) := c0
  replace c1 : _ = some (Value.int .i64 h.lb) := c1
  replace c2 : _ = some (Value.int .i64 h.ln) := c2
  replace c3 : _ = some (Value.int .i64 h.nx) := c3
  replace c4 : _ = some (Value.int .i64 h.hp) := c4
  have b0 : 0 ≤ 96 + h.cl / 16 ∧ 96 + h.cl / 16 < 256 := by omega
  have b1 : 0 ≤ h.cl % 16 * 16 + h.lb / 65536 ∧ h.cl % 16 * 16 + h.lb / 65536 < 256 := by omega
  go_wp2_with fail
  have hlA := Low.alloc w2 (.cells #[.int .u8 (96 + h.cl / 16), .int .u8 (h.cl % 16 * 16 + h.lb / 65536)] 5)
  have hkA : Blk (w2.alloc (.cells #[.int .u8 (96 + h.cl / 16), .int .u8 (h.cl % 16 * 16 + h.lb / 65536)] 5)) 5 w2.heap.size [96 + h.cl / 16, h.cl % 16 * 16 + h.lb / 65536] := Blk.new w2 5 [96 + h.cl / 16, h.cl % 16 * 16 + h.lb / 65536]
  have hO := OwnB.ofBlk (base := w2.heap.size) (n := 2) hkA (.cons b0.1 b0.2 (.cons b1.1 b1.2 .nil)) (Nat.le_refl _) rfl (by unfold maxLen; omega)
  have hB : Below w2.heap.size w2 _ := hlA
  have HSp := Lib.hid (headL_split h HC.out)
  clear hlA hkA b0 b1 c0 c1 c2 c3 c4
  generalize w2.alloc (.cells #[.int .u8 (96 + h.cl / 16), .int .u8 (h.cl % 16 * 16 + h.lb / 65536)] 5) = w3 at *
  have hlB : Low w w2 := hL
  refine (rtwo_any (h.lb % 65536) w3 (by unfold i64ok; omega)).mono ?_
  rintro e w4 ⟨v, rfl, g4, rfl, hg4, hk4, hl4, ha4, hl⟩
  have hb4 := hk4.bs ha4 hk4.lt hl4
  replace hO := hO.below hl
  replace hB := hB.trans (hl.mono hB.size)
  clear hl hk4 ha4 hl4 hg4
  go_wp2_with (at_builtin; refine wpList_append_bs rfl (.tmp 22) (.tmp 26) _ rfl w2.heap.size 5 i0 Try.underlying26 HI.out HZ0.out HZ1.out HZ2.out _ 2 _ _ rfl hO _ 2 _ _ (two (h.lb % 65536)) rfl hb4 (by omega) hB.size ?_; intro A5 c5 w5 hO5 hg5 hb5; refine Hid.out ?_)
  refine Lib.hid ?_
  replace hB : Below w2.heap.size w2 w5 := hB.grown hg5 hB.size (fun k hk => (hO.lt k hk).1)
  replace hO := hO5
  clear hO5 hg5 hb5
  have c2 := (HB.out.below hB hgs).cell 2
  replace c2 : _ = some (Value.int .i64 h.ln) := c2
  go_wp2_with fail
  refine (rtwo_any h.ln w5 (by unfold i64ok; omega)).mono ?_
  rintro e w6 ⟨v, rfl, g6, rfl, hg6, hk6, hl6, ha6, hl⟩
  have hb6 := hk6.bs ha6 hk6.lt hl6
  replace hO := hO.below hl
  replace hB := hB.trans (hl.mono hB.size)
  clear hl hk6 ha6 hl6 hg6 c2
  go_wp2_with (at_builtin; refine wpList_append_bs rfl (.tmp 28) (.tmp 31) _ rfl w2.heap.size 5 i0 Try.underlying26 HI.out HZ0.out HZ1.out HZ2.out _ 4 _ _ rfl hO _ 2 _ _ (two h.ln) rfl hb6 (by omega) hB.size ?_; intro A7 c7 w7 hO7 hg7 hb7; refine Hid.out ?_)
  refine Lib.hid ?_
  replace hB : Below w2.heap.size w2 w7 := hB.grown hg7 hB.size (fun k hk => (hO.lt k hk).1)
  replace hO := hO7
  clear hO7 hg7 hb7
  have c3 := (HB.out.below hB hgs).cell 3
  replace c3 : _ = some (Value.int .i64 h.nx) := c3
  have c4 := (HB.out.below hB hgs).cell 4
  replace c4 : _ = some (Value.int .i64 h.hp) := c4
  have hlA := Low.alloc w7 (.cells #[.int .u8 h.nx, .int .u8 h.hp] 5)
  have hkA : Blk (w7.alloc (.cells #[.int .u8 h.nx, .int .u8 h.hp] 5)) 5 w7.heap.size [h.nx, h.hp] := Blk.new w7 5 [h.nx, h.hp]
  have hb8 := hkA.bs (.cons (by omega) (by omega) (.cons (by omega) (by omega) .nil)) hkA.lt (n := 2) rfl
  replace hO := hO.below hlA
  replace hB := hB.trans (hlA.mono hB.size)
  clear hlA hkA
  go_wp2_with (at_builtin; refine wpList_append_bs rfl (.tmp 33) (.tmp 40) _ rfl w2.heap.size 5 i0 Try.underlying26 HI.out HZ0.out HZ1.out HZ2.out _ 6 _ _ rfl hO _ 2 _ _ [h.nx, h.hp] rfl hb8 (by omega) hB.size ?_; intro A9 c9 w9 hO9 hg9 hb9; refine Hid.out ?_)
  refine Lib.hid ?_
  replace hB : Below w2.heap.size w2 w9 := hB.grown hg9 hB.size (fun k hk => (hO.lt k hk).1)
  replace hO := hO9
  clear hO9 hg9 hb9
  clear c3 c4
  have hS := BlkV.src (HB.out.below hB hgs) HO.out (B := w9.heap.size) (Nat.lt_of_lt_of_le hgs hB.size)
  go_wp2_with (at_builtin; refine wpList_append_bs rfl (.tmp 42) (.tmp 44) _ rfl w2.heap.size 5 i0 Try.underlying26 HI.out HZ0.out HZ1.out HZ2.out _ 8 _ _ rfl hO _ 16 _ _ h.s rfl hS (by omega) hB.size ?_; intro A10 c10 w10 hO10 hg10 hb10; refine Hid.out ?_)
  refine Lib.hid ?_
  replace hB : Below w2.heap.size w2 w10 := hB.grown hg10 hB.size (fun k hk => (hO.lt k hk).1)
  replace hO := hO10
  clear hO10 hg10 hb10
  have hD := BlkV.dst (HB.out.below hB hgs) HO.out (B := w10.heap.size) (Nat.lt_of_lt_of_le hgs hB.size)
  go_wp2_with (at_builtin; refine wpList_append_bs rfl (.tmp 46) (.tmp 48) _ rfl w2.heap.size 5 i0 Try.underlying26 HI.out HZ0.out HZ1.out HZ2.out _ 24 _ _ rfl hO _ 16 _ _ h.d rfl hD (by omega) hB.size ?_; intro A11 c11 w11 hO11 hg11 hb11; refine Hid.out ?_)
  refine Lib.hid ?_
  replace hB : Below w2.heap.size w2 w11 := hB.grown hg11 hB.size (fun k hk => (hO.lt k hk).1)
  replace hO := hO11
  clear hO11 hg11 hb11
  rw [← HSp.out] at hO
  have hN : OwnOut 5 w 40 (headL h) (.slice A11 40 c11) w11 := ⟨A11, c11, rfl, hO.lower hlB.size, hlB.trans hB⟩
  go_wp2
  go_ret
  exact ⟨_, rfl, hN⟩

set_option maxHeartbeats 1600000 in
theorem rput_no (h : Hd) (w : World) (hk : h.ok) (hc : canB h = false) :
    Calls Try.prog 11 #[headV h] w fun e w' => ∃ v, e = .returned v ∧ OwnOut 5 w 0 [] v w' := by
  unfold headV
  have HO := Lib.hid hk
  clear hk
  go_enter Try.func11, Try.ntmps11
  go_wp2_with ((with_reducible refine wpList_box_v rfl 25 (.tmp 0) rfl (headC h) rfl ?_); intro w1 HB hL hz1; refine Hid.out ?_)
  refine Lib.hid ?_
  replace HB := Lib.hid HB
  clear hz1
  go_wp2_with (with_reducible refine wpList_load_head rfl (.tmp 1) rfl w.heap.size rfl h HB.out HO.out.s HO.out.d ?_)
  refine (rcan_any h w1 HO.out).mono ?_
  rintro e w2 ⟨rfl, hl⟩
  replace hL := hL.trans hl
  clear hl
  rw [show canE h = 2 by unfold canE; rw [hc]; rfl]
  go_wp2
  go_ret
  exact ⟨_, rfl, _, _, rfl, OwnB.none_ _ _ _, hL⟩
theorem rput_any (h : Hd) (w : World) (hk : h.ok) :
    Calls Try.prog 11 #[headV h] w fun e w' => ∃ v, e = .returned v ∧ OwnOut 5 w (putL h).length (putL h) v w' := by
  by_cases hc : canB h = true
  · rw [show putL h = headL h by unfold putL; rw [if_pos hc], headL_length hk]
    exact rput_yes h w hk hc
  · rw [show putL h = [] by unfold putL; rw [if_neg hc]]
    exact rput_no h w hk (by simpa using hc)
end Go.Proofs.Ytpaikenchbeenaa
