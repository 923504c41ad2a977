/- What the laws' own small, srh.segment, Active and Final answer. Condition: at most 2^47 segments. -/
import Derived.Test.YtnfiijbnfmcpjaaSrB
namespace Go.Proofs.Ytnfiijbnfmcpjaa
open Go.RowKit
set_option linter.unusedVariables false

/-- has a header few segments and parts? -/
def smallR (s : Sr) : Bool := decide (s.gm ≤ 40) && decide (s.tm ≤ 200)
set_option maxHeartbeats 400000 in
theorem srsmall_any (s : Sr) (w : World) (h1 : s.gm ≤ 140737488351232) (h2 : s.tm ≤ 140737488351232) :
    Calls Try.prog 7 #[srV s] w fun e w' => e = .returned (.bool (smallR s)) ∧ Below w.heap.size w w' := by
  unfold srV
  by_cases h40 : s.gm ≤ 40
  · have hS : smallR s = decide (s.tm ≤ 200) := by simp [smallR, h40]
    have HS := Lib.hid hS
    have d40 : decide ((s.gm : Int) ≤ 40) = true := by simp; omega
    clear hS
    go_enter Try.func7, Try.ntmps7
    go_wp2_with ((with_reducible refine wpList_box_sr rfl (.tmp 0) rfl s rfl ?_); intro w1 HB hL hz1; refine Hid.out ?_)
    refine Lib.hid ?_
    obtain ⟨c0, c1, c2, c3, c4, c5⟩ := BlkR.cells HB
    clear HB c0 c1 c2 c3
    go_wp2_with fail
    go_ret
    exact ⟨by rw [HS.out]; congr 2; simp; omega, hL⟩
  · have hS : smallR s = false := by simp [smallR, h40]
    have HS := Lib.hid hS
    have d40 : decide ((s.gm : Int) ≤ 40) = false := by simp; omega
    clear hS
    go_enter Try.func7, Try.ntmps7
    go_wp2_with ((with_reducible refine wpList_box_sr rfl (.tmp 0) rfl s rfl ?_); intro w1 HB hL hz1; refine Hid.out ?_)
    refine Lib.hid ?_
    obtain ⟨c0, c1, c2, c3, c4, c5⟩ := BlkR.cells HB
    clear HB c0 c1 c2 c3
    go_wp2_with fail
    go_ret
    exact ⟨by rw [HS.out]; rfl, hL⟩

/-- the segment at a place, and is there one? -/
def thereR (l : List (List Int)) (k : Int) : Bool := decide (0 ≤ k ∧ k < l.length)
def segR (l : List (List Int)) (k : Int) : List Int := if thereR l k = true then l.getD k.toNat zero16 else zero16
theorem ret_addrR {fn : Func} {p q : Tmp} {R : Ending → World → Prop} {tmps : Array Value} {df : List Deferred} {w : World} {g : Nat} {t : TypeId} {s : List Int} {b : Bool} (hfn : fn.results = #[.cell p 39, .tmp q]) (hp : tmps.getD p undef = .pointer (some ⟨g, 0, none⟩)) (hq : tmps.getD q undef = .bool b)
    (hb : Blk w t g s) (hs : s.length = 16) (hR : R (.returned (.tuple #[addrV s, .bool b])) w) (hd : df = []) : bodyPost Try.prog fn R .ret ⟨tmps, df⟩ w :=
  bodyPost_ret (results_cell_tmp hfn tmps w g _ _ _ _ _ hp hq hb Try.underlying39 rfl (by rw [addr_size]; simp [cellsB_length, hs])) hd hR
theorem zero16_V : Value.agg (cellsB zero16).toArray = .agg #[.int .u8 0, .int .u8 0, .int .u8 0, .int .u8 0, .int .u8 0, .int .u8 0, .int .u8 0, .int .u8 0, .int .u8 0, .int .u8 0, .int .u8 0, .int .u8 0, .int .u8 0, .int .u8 0, .int .u8 0, .int .u8 0] := rfl
theorem addr_zeroR : (Try.prog.info? 39).map (·.zero) = some (some (.agg (cellsB zero16).toArray)) := by kernel_rfl

set_option maxRecDepth 100000 in
set_option maxHeartbeats 800000 in
theorem segment_any (A : Option Addr) (n c : Nat) (l : List (List Int)) (k : Int) (w : World) (hn : n ≤ 140737488351232) (hk : i64ok k) (h : As w w.heap.size A n l) :
    Calls Try.prog 31 #[.slice A n c, .int .i64 k] w fun e w' => e = .returned (.tuple #[addrV (segR l k), .bool (thereR l k)]) ∧ Below w.heap.size w w' := by
  unfold i64ok at hk
  have hlen := h.len
  by_cases hth : 0 ≤ k ∧ k < n
  · obtain ⟨i, rfl⟩ : ∃ i : Nat, k = i := ⟨k.toNat, by omega⟩
    have hi : i < n := by omega
    have HX := Lib.hid (show thereR l (i : Int) = true by unfold thereR; rw [decide_eq_true]; omega)
    have HS := Lib.hid (show segR l (i : Int) = l.getD i zero16 by unfold segR; rw [if_pos HX.out]; rfl)
    obtain ⟨b, o, rfl, -, -⟩ := h.mem (by omega)
    obtain ⟨hbl, hr⟩ := h.at_ hi
    have hl16 := (h.all.getD i).1
    generalize l.getD i zero16 = s at *
    have d1 : decide ((n : Int) ≤ i) = false := by simp; omega
    have HR := Lib.hid hr
    clear h hr hlen hth
    go_enter Try.func31, Try.ntmps31
    go_wp2_with ((with_reducible refine wpList_alloc_v rfl 39 rfl (cellsB zero16) addr_zeroR ?_); intro w1 HZ0 hL hz1; refine Hid.out ?_)
    refine Lib.hid ?_
    have HZ : Hid (Blk w1 39 w.heap.size zero16) := Lib.hid HZ0
    have HR1 := Lib.hid (rangeAt_below HR.out hL hbl)
    clear HZ0 hz1 HR
    go_wp2_with (first | (with_reducible refine wpList_load_at rfl (.tmp 17) rfl b (o + i * 16) rfl s hl16 HR1.out ?_) | (with_reducible refine wpList_store_addr rfl (.tmp 4) (.tmp 18) rfl w.heap.size rfl s rfl _ zero16 HZ.out rfl hl16 ?_; intro w2 HG hb2 hz2; refine Hid.out ?_))
    refine Lib.hid ?_
    replace HG := Lib.hid HG
    go_wp2_with fail
    exact ret_addrR Try.results31 rfl rfl HG.out hl16 ⟨by rw [HX.out, HS.out], Below.trans hL hb2⟩ rfl
  · have HX := Lib.hid (show thereR l k = false by unfold thereR; rw [decide_eq_false]; omega)
    have HS := Lib.hid (show segR l k = zero16 by unfold segR; rw [HX.out]; rfl)
    clear h hlen
    by_cases h0 : k < 0
    · clear hth
      have d0 : decide (k < 0) = true := by simpa using h0
      go_enter Try.func31, Try.ntmps31
      go_wp2_with ((with_reducible refine wpList_alloc_v rfl 39 rfl (cellsB zero16) addr_zeroR ?_); intro w1 HZ0 hL hz1; refine Hid.out ?_)
      refine Lib.hid ?_
      have HZ : Hid (Blk w1 39 w.heap.size zero16) := Lib.hid HZ0
      clear HZ0 hz1
      go_wp2_with (refine wpList_store_addr rfl (.tmp 4) (.tmp 14) rfl w.heap.size rfl zero16 rfl _ zero16 HZ.out rfl rfl ?_; intro w2 HG hb2 hz2; refine Hid.out ?_)
      refine Lib.hid ?_
      replace HG := Lib.hid HG
      go_wp2_with fail
      exact ret_addrR Try.results31 rfl rfl HG.out rfl ⟨by rw [HX.out, HS.out], Below.trans hL hb2⟩ rfl
    · have d0 : decide (k < 0) = false := by simpa using h0
      have d1 : decide ((n : Int) ≤ k) = true := by simp; omega
      clear hth
      go_enter Try.func31, Try.ntmps31
      go_wp2_with ((with_reducible refine wpList_alloc_v rfl 39 rfl (cellsB zero16) addr_zeroR ?_); intro w1 HZ0 hL hz1; refine Hid.out ?_)
      refine Lib.hid ?_
      have HZ : Hid (Blk w1 39 w.heap.size zero16) := Lib.hid HZ0
      clear HZ0 hz1
      go_wp2_with (refine wpList_store_addr rfl (.tmp 4) (.tmp 14) rfl w.heap.size rfl zero16 rfl _ zero16 HZ.out rfl rfl ?_; intro w2 HG hb2 hz2; refine Hid.out ?_)
      refine Lib.hid ?_
      replace HG := Lib.hid HG
      go_wp2_with fail
      exact ret_addrR Try.results31 rfl rfl HG.out rfl ⟨by rw [HX.out, HS.out], Below.trans hL hb2⟩ rfl

theorem segR_len {l : List (List Int)} (h : AllA l) (k : Int) : (segR l k).length = 16 := by
  unfold segR
  split
  · exact (h.getD _).1
  · rfl
set_option maxRecDepth 100000 in
set_option maxHeartbeats 800000 in
theorem active_any (s : Sr) (w : World) (hs : s.ok w w.heap.size) :
    Calls Try.prog 16 #[srV s] w fun e w' => e = .returned (.tuple #[addrV (segR s.sg s.le), .bool (thereR s.sg s.le)]) ∧ Below w.heap.size w w' := by
  unfold srV
  have HO := Lib.hid hs
  have HL16 := Lib.hid (segR_len hs.sg.all s.le)
  clear hs
  go_enter Try.func16, Try.ntmps16
  go_wp2_with (first | ((with_reducible refine wpList_box_sr rfl (.tmp 0) rfl s rfl ?_); intro w1 HB hL hz1) | ((with_reducible refine wpList_alloc_v rfl 39 rfl (cellsB zero16) addr_zeroR ?_); intro w2 HZ0 hL2 hz2; refine Hid.out ?_))
  refine Lib.hid ?_
  rw [hz1] at HZ0
  have HZ : Hid (Blk w2 39 (w.heap.size + 1) zero16) := Lib.hid HZ0
  replace HB := HB.below hL2 HB.lt
  replace hL : Low w w2 := hL.trans hL2
  obtain ⟨c0, c1, c2, c3, c4, c5⟩ := BlkR.cells HB
  clear HZ0 hz1 hz2 hL2 c0 c2 c3 c5 HB
  go_wp2_with fail
  refine (segment_any s.gA s.gm s.gc s.sg s.le w2 HO.out.gm HO.out.le (HO.out.low hL).sg).mono ?_
  rintro e w3 ⟨rfl, hB3⟩
  replace HZ := Lib.hid (HZ.out.below hB3 HZ.out.lt)
  replace hL := hL.trans hB3
  obtain ⟨x, hx⟩ : ∃ x, x = segR s.sg s.le := ⟨_, rfl⟩
  obtain ⟨y, hy⟩ : ∃ y, y = thereR s.sg s.le := ⟨_, rfl⟩
  rw [← hx] at HL16 ⊢
  rw [← hy]
  have HX := Lib.hid hx
  have HY := Lib.hid hy
  clear hx hy
  clear c1 c4 hB3
  unfold addrV
  go_wp2_with (refine wpList_store_addr rfl (.tmp 2) (.tmp 9) rfl (w.heap.size + 1) rfl x rfl _ zero16 HZ.out rfl HL16.out ?_; intro w4 HG hb4 hz4; refine Hid.out ?_)
  refine Lib.hid ?_
  replace HG := Lib.hid HG
  go_wp2_with fail
  exact ret_addrR Try.results16 rfl rfl HG.out HL16.out ⟨by rw [HX.out, HY.out], Below.trans hL (hb4.mono (by omega))⟩ rfl
set_option maxRecDepth 100000 in
set_option maxHeartbeats 800000 in
theorem final_any (s : Sr) (w : World) (hs : s.ok w w.heap.size) :
    Calls Try.prog 17 #[srV s] w fun e w' => e = .returned (.tuple #[addrV (segR s.sg 0), .bool (thereR s.sg 0)]) ∧ Below w.heap.size w w' := by
  unfold srV
  have HO := Lib.hid hs
  have HL16 := Lib.hid (segR_len hs.sg.all 0)
  clear hs
  go_enter Try.func17, Try.ntmps17
  go_wp2_with (first | ((with_reducible refine wpList_box_sr rfl (.tmp 0) rfl s rfl ?_); intro w1 HB hL hz1) | ((with_reducible refine wpList_alloc_v rfl 39 rfl (cellsB zero16) addr_zeroR ?_); intro w2 HZ0 hL2 hz2; refine Hid.out ?_))
  refine Lib.hid ?_
  rw [hz1] at HZ0
  have HZ : Hid (Blk w2 39 (w.heap.size + 1) zero16) := Lib.hid HZ0
  replace HB := HB.below hL2 HB.lt
  replace hL : Low w w2 := hL.trans hL2
  obtain ⟨c0, c1, c2, c3, c4, c5⟩ := BlkR.cells HB
  clear HZ0 hz1 hz2 hL2 c0 c1 c2 c3 c5 HB
  go_wp2_with fail
  refine (segment_any s.gA s.gm s.gc s.sg 0 w2 HO.out.gm (by unfold i64ok; omega) (HO.out.low hL).sg).mono ?_
  rintro e w3 ⟨rfl, hB3⟩
  replace HZ := Lib.hid (HZ.out.below hB3 HZ.out.lt)
  replace hL := hL.trans hB3
  obtain ⟨x, hx⟩ : ∃ x, x = segR s.sg 0 := ⟨_, rfl⟩
  obtain ⟨y, hy⟩ : ∃ y, y = thereR s.sg 0 := ⟨_, rfl⟩
  rw [← hx] at HL16 ⊢
  rw [← hy]
  have HX := Lib.hid hx
  have HY := Lib.hid hy
  clear hx hy
  clear c4 hB3
  unfold addrV
  go_wp2_with (refine wpList_store_addr rfl (.tmp 2) (.tmp 7) rfl (w.heap.size + 1) rfl x rfl _ zero16 HZ.out rfl HL16.out ?_; intro w4 HG hb4 hz4; refine Hid.out ?_)
  refine Lib.hid ?_
  replace HG := Lib.hid HG
  go_wp2_with fail
  exact ret_addrR Try.results17 rfl rfl HG.out HL16.out ⟨by rw [HX.out, HY.out], Below.trans hL (hb4.mono (by omega))⟩ rfl
end Go.Proofs.Ytnfiijbnfmcpjaa
