/- What six.Nearer, To and Sized tell of any bytes. Condition: at most 2^47 bytes. -/
import Derived.Test.YtpaikenchbeenaaSxH
namespace Go.Proofs.Ytpaikenchbeenaa
open Go.RowKit
set_option linter.unusedVariables false

/-- one hop less; for somebody else; as long as it is -/
def nearH (h : Hd) : Hd := { h with hp := h.hp - 1 }
def toH (d : List Int) (h : Hd) : Hd := { h with d := d }
def sizedH (m : Int) (h : Hd) : Hd := { h with ln := m }
theorem toH_ok {d : List Int} {h : Hd} (hk : h.ok) (hd : d.length = 16) (vd : AllB d) : (toH d h).ok := ⟨hk.cl, hk.lb, hk.ln, hk.nx, hk.hp, hk.s, hd, hk.vs, vd⟩
theorem sizedH_ok {m : Int} {h : Hd} (hk : h.ok) (hm : i64ok m) : (sizedH m h).ok := ⟨hk.cl, hk.lb, hm, hk.nx, hk.hp, hk.s, hk.d, hk.vs, hk.vd⟩
theorem nearH_ok {h : Hd} (hk : h.ok) (hm : 1 < h.hp) : (nearH h).ok := ⟨hk.cl, hk.lb, hk.ln, hk.nx, by have := hk.hp; unfold i64ok nearH at *; dsimp only; omega, hk.s, hk.d, hk.vs, hk.vd⟩

set_option maxHeartbeats 1600000 in
set_option maxRecDepth 100000 in
theorem near1_no (h : Hd) (w : World) (hk : h.ok) (hp : h.hp ≤ 1) :
    Calls Try.prog 28 #[headV h] w fun e w' => GivesH w h 13 e w' := by
  unfold headV
  have HO := Lib.hid hk
  have HS := Lib.hid hk.s
  have HD := Lib.hid hk.d
  clear hk
  go_enter Try.func28, Try.ntmps28
  go_wp2_with ((with_reducible refine wpList_box_v rfl 25 (.tmp 0) rfl (headC h) rfl ?_); intro w1 HB1 hl1 hz1; refine Hid.out ?_)
  refine Lib.hid ?_
  go_wp2_with ((with_reducible refine wpList_alloc_v rfl 25 rfl (headC zeroH) (by kernel_rfl) ?_); intro w2 HZ hl2 hz2; refine Hid.out ?_)
  refine Lib.hid ?_
  have HB := Lib.hid (HB1.below hl2 HB1.lt)
  replace HZ := Lib.hid HZ
  rw [hz1] at HZ
  have hL := hl1.trans hl2
  have c4 := HB.out.cell 4
  replace c4 : _ = some (Value.int .i64 h.hp) := c4
  clear HB1 hl1 hl2 hz1 hz2
  go_wp2_with (first
    | (with_reducible refine wpList_load_head rfl (.tmp 1) rfl w.heap.size rfl h HB.out HS.out HD.out ?_)
    | ((with_reducible refine wpList_store_head rfl (.tmp 2) (.tmp 7) rfl (w.heap.size + 1) rfl h rfl zeroH HZ.out rfl rfl HS.out HD.out ?_); intro w8 HG8 hb8 hz8))
  exact ret_head Try.results28 rfl rfl HG8 HS.out HD.out ⟨rfl, Below.trans hL (hb8.mono (by omega))⟩ rfl

set_option maxHeartbeats 1600000 in
set_option maxRecDepth 100000 in
theorem near1_yes (h : Hd) (w : World) (hk : h.ok) (hp : 1 < h.hp) :
    Calls Try.prog 28 #[headV h] w fun e w' => GivesH w (nearH h) 0 e w' := by
  unfold headV
  have HO := Lib.hid hk
  have HS : Hid ((nearH h).s.length = 16) := Lib.hid hk.s
  have HD : Hid ((nearH h).d.length = 16) := Lib.hid hk.d
  have hr := hk.hp
  unfold i64ok at hr
  clear hk
  go_enter Try.func28, Try.ntmps28
  go_wp2_with ((with_reducible refine wpList_box_v rfl 25 (.tmp 0) rfl (headC h) rfl ?_); intro w1 HB1 hl1 hz1; refine Hid.out ?_)
  refine Lib.hid ?_
  go_wp2_with ((with_reducible refine wpList_alloc_v rfl 25 rfl (headC zeroH) (by kernel_rfl) ?_); intro w2 HZ hl2 hz2; refine Hid.out ?_)
  refine Lib.hid ?_
  have HB := Lib.hid (HB1.below hl2 HB1.lt)
  replace HZ := Lib.hid HZ
  rw [hz1] at HZ
  have hL := hl1.trans hl2
  have c4 := HB.out.cell 4
  have f4 := HB.out.frozen 4
  replace c4 : _ = some (Value.int .i64 h.hp) := c4
  have HB2 : Hid (BlkH (w2.setCell ⟨w.heap.size, 4, none⟩ (.int .i64 (h.hp - 1))) w.heap.size (nearH h)) := Lib.hid (BlkV.set_ HB.out 4 (.int .i64 (h.hp - 1)))
  have HZ2 := Lib.hid (HZ.out.far (p := ⟨w.heap.size, 4, none⟩) (by simp) (.int .i64 (h.hp - 1)))
  have hL2 := hL.setCell (p := ⟨w.heap.size, 4, none⟩) (Nat.le_refl _) (.int .i64 (h.hp - 1))
  clear HB1 hl1 hl2 hz1 hz2 HB HZ hL
  go_wp2_with (first
    | (with_reducible refine wpList_load_head rfl (.tmp 1) rfl w.heap.size rfl (nearH h) HB2.out HS.out HD.out ?_)
    | ((with_reducible refine wpList_store_head rfl (.tmp 2) (.tmp 12) rfl (w.heap.size + 1) rfl (nearH h) rfl zeroH HZ2.out rfl rfl HS.out HD.out ?_); intro w8 HG8 hb8 hz8))
  exact ret_head Try.results28 rfl rfl HG8 HS.out HD.out ⟨rfl, Below.trans hL2 (hb8.mono (by omega))⟩ rfl

def setCs (vs : List Value) (o : Nat) : List Value → List Value
  | [] => vs
  | u :: r => setCs (vs.set o u) (o + 1) r
theorem BlkV.setMid {t : TypeId} {g : Nat} : ∀ (us : List Value) (o : Nat) (w : World) (vs : List Value), BlkV w t g vs → BlkV (w.setCells g o us) t g (setCs vs o us)
  | [], _, _, _, h => h
  | u :: r, o, w, vs, h => BlkV.setMid r (o + 1) _ _ (h.set_ o u)
theorem BlkV.farMid {t : TypeId} {g g' : Nat} (hg : g' ≠ g) : ∀ (us : List Value) (o : Nat) (w : World) (vs : List Value), BlkV w t g' vs → BlkV (w.setCells g o us) t g' vs
  | [], _, _, _, h => h
  | u :: r, o, w, vs, h => BlkV.farMid hg r (o + 1) _ _ (h.far (p := ⟨g, o, none⟩) hg u)
theorem low_setMid {B g : Nat} (hg : B ≤ g) : ∀ (us : List Value) (o : Nat) (w w0 : World), Below B w0 w → Below B w0 (w.setCells g o us)
  | [], _, _, _, h => h
  | u :: r, o, w, w0, h => low_setMid hg r (o + 1) _ _ (h.setCell (p := ⟨g, o, none⟩) hg u)
theorem setCs_dst (h : Hd) (d : List Int) (hs : h.s.length = 16) (hd : h.d.length = 16) (hn : d.length = 16) : setCs (headC h) 21 (cellsB d) = headC (toH d h) := by
  obtain ⟨a, b, c, dd, e, s, t⟩ := h
  obtain ⟨s0, s1, s2, s3, s4, s5, s6, s7, s8, s9, s10, s11, s12, s13, s14, s15, rfl⟩ := list16 s hs
  obtain ⟨d0, d1, d2, d3, d4, d5, d6, d7, d8, d9, d10, d11, d12, d13, d14, d15, rfl⟩ := list16 t hd
  obtain ⟨e0, e1, e2, e3, e4, e5, e6, e7, e8, e9, e10, e11, e12, e13, e14, e15, rfl⟩ := list16 d hn
  kernel_rfl
theorem BlkV.there {w : World} {t : TypeId} {g : Nat} {vs : List Value} (h : BlkV w t g vs) (o n : Nat) (hn : o + n ≤ vs.length) : w.there g o n := fun j hj =>
  ⟨by rw [h.cell, List.getElem?_eq_getElem (by omega)]; rfl, h.frozen _⟩
/-- an address is stored in a header -/
theorem wpList_store_dst {ops : Array Oper} {rest : List Oper} {o : Oper} {a : Act} {w : World} {Q : Exit → Act → World → Prop} (hgd : o.guard = none) (x y : Operand) (ho : o.op = .store 23 x y) (g : Nat) (hx : a.eval x = .pointer (some ⟨g, 21, none⟩)) (d : List Int) (hy : a.eval y = .agg (cellsB d).toArray)
    (h : Hd) (hb : BlkH w g h) (hs : h.s.length = 16) (hd : h.d.length = 16) (hn : d.length = 16)
    (hk : BlkH (w.setCells g 21 (cellsB d)) g (toH d h) → wpList Try.prog ops Q rest (a.put o.dst undef) (w.setCells g 21 (cellsB d))) : wpList Try.prog ops Q (o :: rest) a w :=
  wpList_store_mid hgd 23 x y ho g 21 (cellsB d).toArray hx hy (hb.there 21 _ (by simp [headC_length hs hd, cellsB_length, hn])) (by rw [addr_size]; simp [cellsB_length, hn])
    (all_oneCell_toArray (cellsB_one d)) (by
      have h2 := BlkV.setMid (cellsB d) 21 w _ hb
      rw [setCs_dst h d hs hd hn] at h2
      exact hk h2)

set_option maxHeartbeats 1600000 in
set_option maxRecDepth 100000 in
theorem to1_any (h : Hd) (gd : Nat) (d : List Int) (t : TypeId) (w : World) (hk : h.ok) (hd : d.length = 16) (hb : Blk w t gd d) :
    Calls Try.prog 30 #[headV h, .pointer (some ⟨gd, 0, none⟩)] w fun e w' => GivesH w (toH d h) 0 e w' := by
  unfold headV
  have HO := Lib.hid hk
  have HS : Hid ((toH d h).s.length = 16) := Lib.hid hk.s
  have HD : Hid ((toH d h).d.length = 16) := Lib.hid hd
  have HS1 := Lib.hid hk.s
  have HD1 := Lib.hid hk.d
  have HDn := Lib.hid hd
  clear hk hd
  go_enter Try.func30, Try.ntmps30
  go_wp2_with ((with_reducible refine wpList_box_v rfl 25 (.tmp 0) rfl (headC h) rfl ?_); intro w1 HB1 hl1 hz1; refine Hid.out ?_)
  refine Lib.hid ?_
  go_wp2_with ((with_reducible refine wpList_alloc_v rfl 25 rfl (headC zeroH) (by kernel_rfl) ?_); intro w2 HZ hl2 hz2; refine Hid.out ?_)
  refine Lib.hid ?_
  have HB := Lib.hid (HB1.below hl2 HB1.lt)
  have hL := hl1.trans hl2
  have HA := Lib.hid (hb.below hL hb.lt)
  replace HZ := Lib.hid HZ
  rw [hz1] at HZ
  clear HB1 hl1 hl2 hz1 hz2 hb
  go_wp2_with (first
    | (with_reducible refine wpList_load_addr rfl (.tmp 1) rfl gd rfl _ d HA.out HDn.out ?_)
    | ((with_reducible refine wpList_store_dst rfl (.tmp 6) (.tmp 5) rfl w.heap.size rfl d rfl h HB.out HS1.out HD1.out HDn.out ?_); intro HB2; refine Hid.out ?_))
  refine Lib.hid ?_
  replace HB2 := Lib.hid HB2
  replace HZ := Lib.hid (BlkV.farMid (g := w.heap.size) (by simp) (cellsB d) 21 _ _ HZ.out)
  replace hL := low_setMid (g := w.heap.size) (Nat.le_refl _) (cellsB d) 21 _ _ hL
  clear HB HA
  generalize w2.setCells w.heap.size 21 (cellsB d) = w3 at *
  go_wp2_with (first
    | (with_reducible refine wpList_load_head rfl (.tmp 2) rfl w.heap.size rfl (toH d h) HB2.out HS.out HD.out ?_)
    | ((with_reducible refine wpList_store_head rfl (.tmp 3) (.tmp 7) rfl (w.heap.size + 1) rfl (toH d h) rfl zeroH HZ.out rfl rfl HS.out HD.out ?_); intro w8 HG8 hb8 hz8))
  exact ret_head Try.results30 rfl rfl HG8 HS.out HD.out ⟨rfl, Below.trans hL (hb8.mono (by omega))⟩ rfl

section
variable (h : Hd) (gb : Nat) (A : Option Addr) (n c : Nat) (t : TypeId) (w : World) (hk : h.ok) (hn : n ≤ 140737488355328) (hb : BlkV w t gb [.slice A n c])
include hk hn hb
set_option maxHeartbeats 1600000 in
set_option maxRecDepth 100000 in
theorem sized1_no (hl : 65535 < (n : Int) - 40) :
    Calls Try.prog 31 #[headV h, .pointer (some ⟨gb, 0, none⟩)] w fun e w' => GivesH w h 4 e w' := by
  unfold headV
  have HO := Lib.hid hk
  have HS := Lib.hid hk.s
  have HD := Lib.hid hk.d
  clear hk
  go_enter Try.func31, Try.ntmps31
  go_wp2_with ((with_reducible refine wpList_box_v rfl 25 (.tmp 0) rfl (headC h) rfl ?_); intro w1 HB1 hl1 hz1; refine Hid.out ?_)
  refine Lib.hid ?_
  go_wp2_with ((with_reducible refine wpList_alloc_v rfl 25 rfl (headC zeroH) (by kernel_rfl) ?_); intro w2 HZ hl2 hz2; refine Hid.out ?_)
  refine Lib.hid ?_
  have HB := Lib.hid (HB1.below hl2 HB1.lt)
  have hL := hl1.trans hl2
  have c0 := (BlkV.below hb hL hb.lt).cell 0
  replace c0 : _ = some (Value.slice A n c) := c0
  replace HZ := Lib.hid HZ
  rw [hz1] at HZ
  clear HB1 hl1 hl2 hz1 hz2 hb
  go_wp2_with (first
    | (with_reducible refine wpList_load_head rfl (.tmp 2) rfl w.heap.size rfl h HB.out HS.out HD.out ?_)
    | ((with_reducible refine wpList_store_head rfl (.tmp 3) (.tmp 11) rfl (w.heap.size + 1) rfl h rfl zeroH HZ.out rfl rfl HS.out HD.out ?_); intro w8 HG8 hb8 hz8))
  exact ret_head Try.results31 rfl rfl HG8 HS.out HD.out ⟨rfl, Below.trans hL (hb8.mono (by omega))⟩ rfl
set_option maxHeartbeats 1600000 in
set_option maxRecDepth 100000 in
theorem sized1_yes (hl : (n : Int) - 40 ≤ 65535) :
    Calls Try.prog 31 #[headV h, .pointer (some ⟨gb, 0, none⟩)] w fun e w' => GivesH w (sizedH ((n : Int) - 40) h) 0 e w' := by
  unfold headV
  have HO := Lib.hid hk
  have HS : Hid ((sizedH ((n : Int) - 40) h).s.length = 16) := Lib.hid hk.s
  have HD : Hid ((sizedH ((n : Int) - 40) h).d.length = 16) := Lib.hid hk.d
  clear hk
  go_enter Try.func31, Try.ntmps31
  go_wp2_with ((with_reducible refine wpList_box_v rfl 25 (.tmp 0) rfl (headC h) rfl ?_); intro w1 HB1 hl1 hz1; refine Hid.out ?_)
  refine Lib.hid ?_
  go_wp2_with ((with_reducible refine wpList_alloc_v rfl 25 rfl (headC zeroH) (by kernel_rfl) ?_); intro w2 HZ hl2 hz2; refine Hid.out ?_)
  refine Lib.hid ?_
  have HB := Lib.hid (HB1.below hl2 HB1.lt)
  have hL := hl1.trans hl2
  have c0 := (BlkV.below hb hL hb.lt).cell 0
  replace c0 : _ = some (Value.slice A n c) := c0
  replace HZ := Lib.hid HZ
  rw [hz1] at HZ
  have c2 := HB.out.cell 2
  have f2 := HB.out.frozen 2
  replace c2 : _ = some (Value.int .i64 h.ln) := c2
  have HB2 : Hid (BlkH (w2.setCell ⟨w.heap.size, 2, none⟩ (.int .i64 ((n : Int) - 40))) w.heap.size (sizedH ((n : Int) - 40) h)) := Lib.hid (BlkV.set_ HB.out 2 (.int .i64 ((n : Int) - 40)))
  have HZ2 := Lib.hid (HZ.out.far (p := ⟨w.heap.size, 2, none⟩) (by simp) (.int .i64 ((n : Int) - 40)))
  have hL2 := hL.setCell (p := ⟨w.heap.size, 2, none⟩) (Nat.le_refl _) (.int .i64 ((n : Int) - 40))
  clear HB1 hl1 hl2 hz1 hz2 hb HB HZ hL
  go_wp2_with (first
    | (with_reducible refine wpList_load_head rfl (.tmp 2) rfl w.heap.size rfl (sizedH ((n : Int) - 40) h) HB2.out HS.out HD.out ?_)
    | ((with_reducible refine wpList_store_head rfl (.tmp 3) (.tmp 14) rfl (w.heap.size + 1) rfl (sizedH ((n : Int) - 40) h) rfl zeroH HZ2.out rfl rfl HS.out HD.out ?_); intro w8 HG8 hb8 hz8))
  exact ret_head Try.results31 rfl rfl HG8 HS.out HD.out ⟨rfl, Below.trans hL2 (hb8.mono (by omega))⟩ rfl
end
end Go.Proofs.Ytpaikenchbeenaa
