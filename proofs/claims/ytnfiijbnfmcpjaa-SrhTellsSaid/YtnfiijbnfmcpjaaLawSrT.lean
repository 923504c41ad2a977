/- The walk of harrierlaw10.SrhTells: it answers true. Condition: at most 2^47 segments and parts. -/
import Derived.Test.YtnfiijbnfmcpjaaSrL
namespace Go.Proofs.Ytnfiijbnfmcpjaa
open Go.RowKit
set_option linter.unusedVariables false

theorem thereR_yes {l : List (List Int)} {n : Nat} (hl : l.length = n) {i : Nat} (h : i < n) : thereR l (i : Int) = true ∧ segR l (i : Int) = l.getD i zero16 := by
  have h1 : thereR l (i : Int) = true := by unfold thereR; rw [decide_eq_true]; omega
  refine ⟨h1, ?_⟩
  unfold segR
  rw [if_pos h1]
  rfl
theorem thereR_no {l : List (List Int)} {n : Nat} (hl : l.length = n) {k : Int} (h : ¬ (0 ≤ k ∧ k < n)) : thereR l k = false ∧ segR l k = zero16 := by
  have h1 : thereR l k = false := by unfold thereR; rw [decide_eq_false]; omega
  refine ⟨h1, ?_⟩
  unfold segR
  rw [h1]
  rfl
/-- addresses are other ones, or not -/
theorem neq_same (s : List Int) (hs : s.length = 16) (w : World) : (Op.equalIn 10000 39 (.agg (cellsB s).toArray) (.agg (cellsB s).toArray)).run Try.prog w = .ok true w := by
  have h := eq_addr s s hs hs w
  simpa using h

set_option maxRecDepth 100000 in
set_option maxHeartbeats 3200000 in
theorem srt_yes (s : Sr) (w : World) (hs : s.ok w w.heap.size) (hsm : smallR s = true) (i : Nat) (hi : s.le = i) (hig : i < s.gm) :
    Calls Try.prog 5 #[srV s] w fun e w' => e = .returned (.bool true) ∧ Below w.heap.size w w' := by
  unfold srV
  have HT := Lib.hid hs
  have hgl := hs.sg.len
  have hgm := hs.gm
  have hle := hs.le
  unfold i64ok at hle
  have HY1 := Lib.hid (show thereR s.sg s.le = true by rw [hi]; exact (thereR_yes hgl hig).1)
  have HX1 := Lib.hid (show segR s.sg s.le = s.sg.getD i zero16 by rw [hi]; exact (thereR_yes hgl hig).2)
  have HY2 := Lib.hid (show thereR s.sg 0 = true from (thereR_yes hgl (i := 0) (by omega)).1)
  have HX2 := Lib.hid (show segR s.sg 0 = s.sg.getD 0 zero16 from (thereR_yes hgl (i := 0) (by omega)).2)
  have HX1L := Lib.hid ((hs.sg.all.getD i).1)
  have HX2L := Lib.hid ((hs.sg.all.getD 0).1)
  obtain ⟨GA, hGA⟩ : ∃ GA, GA = s.gA := ⟨_, rfl⟩
  have hsg := hs.sg
  rw [← hGA] at hsg
  obtain ⟨b, o, rfl, hbl, -⟩ := hsg.mem (by omega)
  have HR1 := Lib.hid (hsg.at_ hig).2
  have HR2 := Lib.hid (hsg.at_ (i := 0) (by omega)).2
  generalize s.sg.getD i zero16 = x1 at *
  generalize s.sg.getD 0 zero16 = x2 at *
  have HGA := Lib.hid hGA.symm
  have d1 : decide (0 ≤ s.le) = true := by simp; omega
  have d2 : decide (s.le < s.gm) = true := by simp; omega
  have d3 : decide (0 < (s.gm : Int)) = true := by simp; omega
  have hli := hi
  have hb0 : b < w.heap.size := hbl
  clear hsg hGA hi
  have HSM := Lib.hid hsm
  clear hs hsm hgl
  go_enter Try.func5, Try.ntmps5
  go_wp2_with ((with_reducible refine wpList_box_sr rfl (.tmp 0) rfl s rfl ?_); intro w1 HK hL hz1; refine Hid.out ?_)
  refine Lib.hid ?_
  replace HK := Lib.hid HK
  clear hz1
  go_wp2_with (with_reducible refine wpList_load_sr rfl (.tmp 1) rfl w.heap.size rfl s HK.out ?_)
  refine (srsmall_any s w1 HT.out.gm HT.out.tm).mono ?_
  rintro e w2 ⟨rfl, hB2⟩
  rw [HSM.out]
  replace HK := Lib.hid (HK.out.below hB2 HK.out.lt)
  replace hL := hL.trans hB2
  clear hB2
  go_wp2_with (with_reducible refine wpList_load_sr rfl (.tmp 1) rfl w.heap.size rfl s HK.out ?_)
  refine (active_any s w2 (HT.out.low hL)).mono ?_
  rintro e w3 ⟨rfl, hB3⟩
  rw [HY1.out, HX1.out]
  replace HK := Lib.hid (HK.out.below hB3 HK.out.lt)
  replace hL := hL.trans hB3
  clear hB3
  unfold addrV
  go_wp2_with ((with_reducible refine wpList_alloc_v rfl 39 rfl (cellsB zero16) addr_zeroR ?_); intro w4 HZ4 hl4 hz4; refine Hid.out ?_)
  refine Lib.hid ?_
  replace HZ4 : Hid (Blk w4 39 w3.heap.size zero16) := Lib.hid HZ4
  have hlt3 := HK.out.lt
  replace HK := Lib.hid (HK.out.below hl4 HK.out.lt)
  go_wp2_with (refine wpList_store_addr rfl (.tmp 3) (.tmp 15) rfl w3.heap.size rfl x1 rfl _ zero16 HZ4.out rfl HX1L.out ?_; intro w5 HG5 hb5 hz5; refine Hid.out ?_)
  refine Lib.hid ?_
  have hl5 : Low w3 w5 := Below.trans hl4 hb5
  replace HK := Lib.hid (HK.out.below hb5 hlt3)
  replace hL : Low w w5 := Low.trans hL hl5
  replace HG5 := Lib.hid HG5
  obtain ⟨g1, hg1⟩ : ∃ g, g = w3.heap.size := ⟨_, rfl⟩
  rw [← hg1] at HG5 ⊢
  clear HZ4 hl4 hb5 hz4 hz5 hlt3 hl5 hg1
  go_wp2_with (with_reducible refine wpList_load_sr rfl (.tmp 1) rfl w.heap.size rfl s HK.out ?_)
  refine (final_any s w5 (HT.out.low hL)).mono ?_
  rintro e w6 ⟨rfl, hB6⟩
  rw [HY2.out, HX2.out]
  replace HK := Lib.hid (HK.out.below hB6 HK.out.lt)
  replace HG5 := Lib.hid (HG5.out.below hB6 HG5.out.lt)
  replace hL := hL.trans hB6
  clear hB6
  unfold addrV
  go_wp2_with ((with_reducible refine wpList_alloc_v rfl 39 rfl (cellsB zero16) addr_zeroR ?_); intro w7 HZ7 hl7 hz7; refine Hid.out ?_)
  refine Lib.hid ?_
  replace HZ7 : Hid (Blk w7 39 w6.heap.size zero16) := Lib.hid HZ7
  have hlt6 := HK.out.lt
  have hlg6 := HG5.out.lt
  replace HK := Lib.hid (HK.out.below hl7 HK.out.lt)
  replace HG5 := Lib.hid (HG5.out.below hl7 HG5.out.lt)
  go_wp2_with (refine wpList_store_addr rfl (.tmp 5) (.tmp 20) rfl w6.heap.size rfl x2 rfl _ zero16 HZ7.out rfl HX2L.out ?_; intro w8 HG8 hb8 hz8; refine Hid.out ?_)
  refine Lib.hid ?_
  have hl8 : Low w6 w8 := Below.trans hl7 hb8
  replace HK := Lib.hid (HK.out.below hb8 hlt6)
  replace HG5 := Lib.hid (HG5.out.below hb8 hlg6)
  replace hL : Low w w8 := Low.trans hL hl8
  replace HG8 := Lib.hid HG8
  obtain ⟨g2, hg2⟩ : ∃ g, g = w6.heap.size := ⟨_, rfl⟩
  rw [← hg2] at HG8 ⊢
  clear HZ7 hl7 hb8 hz7 hz8 hlt6 hlg6 hl8 hg2
  obtain ⟨c0, c1, c2, c3, c4, c5⟩ := BlkR.cells HK.out
  clear c0 c2 c3 c5
  go_wp2_with fail
  refine wp_region_plan (.rd 0 (.rd 1 (.rd 2 (.rd 3 (.rd 4 (.rd 5 (.rd 6 (.rd 7 (.rd 8 (.rd 9 (.rd 10 (.rd 11 (.rd 12 (.rd 13 (.rd 14 (.rd 15 (.rd 16 (.rd 17 (.rd 18 (.rd 19 (.rd 20 (.rd 21 (.rd 22 (.rd 23 (.rd 24 (.rd 25 (.rd 26 (.rd 27 (.rd 28 (.rd 29 (.rd 30 (.rd 31 (.rd 32 (.rd 33 (.rd 34 (.done)))))))))))))))))))))))))))))))))))) (by kernel_rfl) (by kernel_rfl) (fun _ _ d _ _ h => by cases d <;> exact h) (by kernel_rfl) ?_
  replace hL := hL.trans (Below.drew (Below.refl w8.heap.size w8))
  replace HK : Hid (BlkR w8.drew w.heap.size s) := HK
  replace HG5 : Hid (Blk w8.drew 39 g1 _) := HG5
  replace HG8 : Hid (Blk w8.drew 39 g2 _) := HG8
  replace c1 : w8.drew.cell? _ = _ := c1
  replace c4 : w8.drew.cell? _ = _ := c4
  generalize w8.drew = w9 at *
  have hk9 := HK.out.lt
  have hz9 := hL.size
  iterate 35 (first | (refine walkP_read (v := _) rfl (by rfl) (by
      intro y hy
      have e1 := (hy.cell (p := ⟨w.heap.size, 1, none⟩) hk9).trans c1
      have e4 := (hy.cell (p := ⟨w.heap.size, 4, none⟩) hk9).trans c4
      rw [HGA.out] at e4
      rw [hli] at e1
      have n0 : 0 < s.gm := by omega
      have q1 := neq_same x1 HX1L.out y
      have q2 := neq_same x2 HX2L.out y
      first
        | exact exec_load_addr rfl (HG5.out.below hy HG5.out.lt) HX1L.out
        | exact exec_load_addr rfl (HG8.out.below hy HG8.out.lt) HX2L.out
        | exact exec_load_at (b := b) (p := o + i * 16) rfl HX1L.out (rangeAt_below (rangeAt_below HR1.out hL hb0) hy (by omega))
        | exact exec_load_at (b := b) (p := o + 0 * 16) rfl HX2L.out (rangeAt_below (rangeAt_below HR2.out hL hb0) hy (by omega))
        | (go_simp; try rfl)) ?_; simp only [Act.put, List.setIfInBounds_toArray, List.set_cons_zero, List.set_cons_succ]) | (refine walkP_skip rfl (by rfl) ?_; simp only [Act.put, List.setIfInBounds_toArray, List.set_cons_zero, List.set_cons_succ]))
  unfold walkP
  clear c1 c4 hk9
  go_wp2_with fail
  refine (srlives_any _).mono ?_
  rintro e w10 ⟨rfl, hB10⟩
  have hL10 := hL.trans hB10
  clear hB10
  go_wp2_with fail
  go_ret
  exact ⟨rfl, hL10⟩

set_option maxRecDepth 100000 in
set_option maxHeartbeats 3200000 in
theorem srt_bneg (s : Sr) (w : World) (hs : s.ok w w.heap.size) (hsm : smallR s = true) (hg : 0 < s.gm) (d1 : decide (0 ≤ s.le) = false) :
    Calls Try.prog 5 #[srV s] w fun e w' => e = .returned (.bool true) ∧ Below w.heap.size w w' := by
  unfold srV
  have HT := Lib.hid hs
  have hgl := hs.sg.len
  have hgm := hs.gm
  have hle := hs.le
  unfold i64ok at hle
  have HY1 := Lib.hid (show thereR s.sg s.le = false from (thereR_no hgl (by have := of_decide_eq_false d1; omega)).1)
  have HX1 := Lib.hid (show segR s.sg s.le = zero16 from (thereR_no hgl (by have := of_decide_eq_false d1; omega)).2)
  have HY2 := Lib.hid (show thereR s.sg 0 = true from (thereR_yes hgl (i := 0) (by omega)).1)
  have HX2 := Lib.hid (show segR s.sg 0 = s.sg.getD 0 zero16 from (thereR_yes hgl (i := 0) (by omega)).2)
  have HX1L := Lib.hid (show zero16.length = 16 from rfl)
  have HX2L := Lib.hid ((hs.sg.all.getD 0).1)
  obtain ⟨GA, hGA⟩ : ∃ GA, GA = s.gA := ⟨_, rfl⟩
  have hsg := hs.sg
  rw [← hGA] at hsg
  obtain ⟨b, o, rfl, hbl, -⟩ := hsg.mem (by omega)
  have HR2 := Lib.hid (hsg.at_ (i := 0) (by omega)).2
  generalize s.sg.getD 0 zero16 = x2 at *
  have HGA := Lib.hid hGA.symm
  have d3 : decide (0 < (s.gm : Int)) = true := by simp; omega
  have hb0 : b < w.heap.size := hbl
  clear hsg hGA
  have HSM := Lib.hid hsm
  clear hs hsm hgl
  go_enter Try.func5, Try.ntmps5
  go_wp2_with ((with_reducible refine wpList_box_sr rfl (.tmp 0) rfl s rfl ?_); intro w1 HK hL hz1; refine Hid.out ?_)
  refine Lib.hid ?_
  replace HK := Lib.hid HK
  clear hz1
  go_wp2_with (with_reducible refine wpList_load_sr rfl (.tmp 1) rfl w.heap.size rfl s HK.out ?_)
  refine (srsmall_any s w1 HT.out.gm HT.out.tm).mono ?_
  rintro e w2 ⟨rfl, hB2⟩
  rw [HSM.out]
  replace HK := Lib.hid (HK.out.below hB2 HK.out.lt)
  replace hL := hL.trans hB2
  clear hB2
  go_wp2_with (with_reducible refine wpList_load_sr rfl (.tmp 1) rfl w.heap.size rfl s HK.out ?_)
  refine (active_any s w2 (HT.out.low hL)).mono ?_
  rintro e w3 ⟨rfl, hB3⟩
  rw [HY1.out, HX1.out]
  replace HK := Lib.hid (HK.out.below hB3 HK.out.lt)
  replace hL := hL.trans hB3
  clear hB3
  unfold addrV
  go_wp2_with ((with_reducible refine wpList_alloc_v rfl 39 rfl (cellsB zero16) addr_zeroR ?_); intro w4 HZ4 hl4 hz4; refine Hid.out ?_)
  refine Lib.hid ?_
  replace HZ4 : Hid (Blk w4 39 w3.heap.size zero16) := Lib.hid HZ4
  have hlt3 := HK.out.lt
  replace HK := Lib.hid (HK.out.below hl4 HK.out.lt)
  go_wp2_with (refine wpList_store_addr rfl (.tmp 3) (.tmp 15) rfl w3.heap.size rfl zero16 rfl _ zero16 HZ4.out rfl HX1L.out ?_; intro w5 HG5 hb5 hz5; refine Hid.out ?_)
  refine Lib.hid ?_
  have hl5 : Low w3 w5 := Below.trans hl4 hb5
  replace HK := Lib.hid (HK.out.below hb5 hlt3)
  replace hL : Low w w5 := Low.trans hL hl5
  replace HG5 := Lib.hid HG5
  obtain ⟨g1, hg1⟩ : ∃ g, g = w3.heap.size := ⟨_, rfl⟩
  rw [← hg1] at HG5 ⊢
  clear HZ4 hl4 hb5 hz4 hz5 hlt3 hl5 hg1
  go_wp2_with (with_reducible refine wpList_load_sr rfl (.tmp 1) rfl w.heap.size rfl s HK.out ?_)
  refine (final_any s w5 (HT.out.low hL)).mono ?_
  rintro e w6 ⟨rfl, hB6⟩
  rw [HY2.out, HX2.out]
  replace HK := Lib.hid (HK.out.below hB6 HK.out.lt)
  replace HG5 := Lib.hid (HG5.out.below hB6 HG5.out.lt)
  replace hL := hL.trans hB6
  clear hB6
  unfold addrV
  go_wp2_with ((with_reducible refine wpList_alloc_v rfl 39 rfl (cellsB zero16) addr_zeroR ?_); intro w7 HZ7 hl7 hz7; refine Hid.out ?_)
  refine Lib.hid ?_
  replace HZ7 : Hid (Blk w7 39 w6.heap.size zero16) := Lib.hid HZ7
  have hlt6 := HK.out.lt
  have hlg6 := HG5.out.lt
  replace HK := Lib.hid (HK.out.below hl7 HK.out.lt)
  replace HG5 := Lib.hid (HG5.out.below hl7 HG5.out.lt)
  go_wp2_with (refine wpList_store_addr rfl (.tmp 5) (.tmp 20) rfl w6.heap.size rfl x2 rfl _ zero16 HZ7.out rfl HX2L.out ?_; intro w8 HG8 hb8 hz8; refine Hid.out ?_)
  refine Lib.hid ?_
  have hl8 : Low w6 w8 := Below.trans hl7 hb8
  replace HK := Lib.hid (HK.out.below hb8 hlt6)
  replace HG5 := Lib.hid (HG5.out.below hb8 hlg6)
  replace hL : Low w w8 := Low.trans hL hl8
  replace HG8 := Lib.hid HG8
  obtain ⟨g2, hg2⟩ : ∃ g, g = w6.heap.size := ⟨_, rfl⟩
  rw [← hg2] at HG8 ⊢
  clear HZ7 hl7 hb8 hz7 hz8 hlt6 hlg6 hl8 hg2
  obtain ⟨c0, c1, c2, c3, c4, c5⟩ := BlkR.cells HK.out
  clear c0 c2 c3 c5
  go_wp2_with fail
  refine wp_region_plan (.rd 0 (.rd 1 (.rd 2 (.rd 3 (.rd 4 (.rd 5 (.rd 6 (.rd 7 (.rd 8 (.rd 9 (.rd 10 (.rd 11 (.rd 12 (.rd 13 (.rd 14 (.rd 15 (.rd 16 (.rd 17 (.rd 18 (.rd 19 (.rd 20 (.rd 21 (.rd 22 (.rd 23 (.rd 24 (.rd 25 (.rd 26 (.rd 27 (.rd 28 (.rd 29 (.rd 30 (.rd 31 (.rd 32 (.rd 33 (.rd 34 (.done)))))))))))))))))))))))))))))))))))) (by kernel_rfl) (by kernel_rfl) (fun _ _ d _ _ h => by cases d <;> exact h) (by kernel_rfl) ?_
  replace hL := hL.trans (Below.drew (Below.refl w8.heap.size w8))
  replace HK : Hid (BlkR w8.drew w.heap.size s) := HK
  replace HG5 : Hid (Blk w8.drew 39 g1 _) := HG5
  replace HG8 : Hid (Blk w8.drew 39 g2 _) := HG8
  replace c1 : w8.drew.cell? _ = _ := c1
  replace c4 : w8.drew.cell? _ = _ := c4
  generalize w8.drew = w9 at *
  have hk9 := HK.out.lt
  have hz9 := hL.size
  iterate 35 (first | (refine walkP_read (v := _) rfl (by rfl) (by
      intro y hy
      have e1 := (hy.cell (p := ⟨w.heap.size, 1, none⟩) hk9).trans c1
      have e4 := (hy.cell (p := ⟨w.heap.size, 4, none⟩) hk9).trans c4
      rw [HGA.out] at e4
      have n0 : 0 < s.gm := by omega
      have q2 := neq_same x2 HX2L.out y
      first
        | exact exec_load_addr rfl (HG8.out.below hy HG8.out.lt) HX2L.out
        | exact exec_load_at (b := b) (p := o + 0 * 16) rfl HX2L.out (rangeAt_below (rangeAt_below HR2.out hL hb0) hy (by omega))
        | (go_simp; try rfl)) ?_; simp only [Act.put, List.setIfInBounds_toArray, List.set_cons_zero, List.set_cons_succ]) | (refine walkP_skip rfl (by rfl) ?_; simp only [Act.put, List.setIfInBounds_toArray, List.set_cons_zero, List.set_cons_succ]))
  unfold walkP
  clear c1 c4 hk9
  have q0 : (Op.equalIn 10000 39 (.agg (cellsB zero16).toArray) (.agg #[.int .u8 0, .int .u8 0, .int .u8 0, .int .u8 0, .int .u8 0, .int .u8 0, .int .u8 0, .int .u8 0, .int .u8 0, .int .u8 0, .int .u8 0, .int .u8 0, .int .u8 0, .int .u8 0, .int .u8 0, .int .u8 0])).run Try.prog w9 = .ok true w9 := neq_same zero16 rfl w9
  go_wp2_with (with_reducible refine wpList_load_addr_g rfl (.tmp 3) rfl g1 rfl _ zero16 HG5.out rfl ?_)
  refine (srlives_any _).mono ?_
  rintro e w10 ⟨rfl, hB10⟩
  have hL10 := hL.trans hB10
  clear hB10
  go_wp2_with fail
  go_ret
  exact ⟨rfl, hL10⟩

set_option maxRecDepth 100000 in
set_option maxHeartbeats 3200000 in
theorem srt_bover (s : Sr) (w : World) (hs : s.ok w w.heap.size) (hsm : smallR s = true) (hg : 0 < s.gm) (d1 : decide (0 ≤ s.le) = true) (d2 : decide (s.le < s.gm) = false) :
    Calls Try.prog 5 #[srV s] w fun e w' => e = .returned (.bool true) ∧ Below w.heap.size w w' := by
  unfold srV
  have HT := Lib.hid hs
  have hgl := hs.sg.len
  have hgm := hs.gm
  have hle := hs.le
  unfold i64ok at hle
  have HY1 := Lib.hid (show thereR s.sg s.le = false from (thereR_no hgl (by have := of_decide_eq_true d1; have := of_decide_eq_false d2; omega)).1)
  have HX1 := Lib.hid (show segR s.sg s.le = zero16 from (thereR_no hgl (by have := of_decide_eq_true d1; have := of_decide_eq_false d2; omega)).2)
  have HY2 := Lib.hid (show thereR s.sg 0 = true from (thereR_yes hgl (i := 0) (by omega)).1)
  have HX2 := Lib.hid (show segR s.sg 0 = s.sg.getD 0 zero16 from (thereR_yes hgl (i := 0) (by omega)).2)
  have HX1L := Lib.hid (show zero16.length = 16 from rfl)
  have HX2L := Lib.hid ((hs.sg.all.getD 0).1)
  obtain ⟨GA, hGA⟩ : ∃ GA, GA = s.gA := ⟨_, rfl⟩
  have hsg := hs.sg
  rw [← hGA] at hsg
  obtain ⟨b, o, rfl, hbl, -⟩ := hsg.mem (by omega)
  have HR2 := Lib.hid (hsg.at_ (i := 0) (by omega)).2
  generalize s.sg.getD 0 zero16 = x2 at *
  have HGA := Lib.hid hGA.symm
  have d3 : decide (0 < (s.gm : Int)) = true := by simp; omega
  have hb0 : b < w.heap.size := hbl
  clear hsg hGA
  have HSM := Lib.hid hsm
  clear hs hsm hgl
  go_enter Try.func5, Try.ntmps5
  go_wp2_with ((with_reducible refine wpList_box_sr rfl (.tmp 0) rfl s rfl ?_); intro w1 HK hL hz1; refine Hid.out ?_)
  refine Lib.hid ?_
  replace HK := Lib.hid HK
  clear hz1
  go_wp2_with (with_reducible refine wpList_load_sr rfl (.tmp 1) rfl w.heap.size rfl s HK.out ?_)
  refine (srsmall_any s w1 HT.out.gm HT.out.tm).mono ?_
  rintro e w2 ⟨rfl, hB2⟩
  rw [HSM.out]
  replace HK := Lib.hid (HK.out.below hB2 HK.out.lt)
  replace hL := hL.trans hB2
  clear hB2
  go_wp2_with (with_reducible refine wpList_load_sr rfl (.tmp 1) rfl w.heap.size rfl s HK.out ?_)
  refine (active_any s w2 (HT.out.low hL)).mono ?_
  rintro e w3 ⟨rfl, hB3⟩
  rw [HY1.out, HX1.out]
  replace HK := Lib.hid (HK.out.below hB3 HK.out.lt)
  replace hL := hL.trans hB3
  clear hB3
  unfold addrV
  go_wp2_with ((with_reducible refine wpList_alloc_v rfl 39 rfl (cellsB zero16) addr_zeroR ?_); intro w4 HZ4 hl4 hz4; refine Hid.out ?_)
  refine Lib.hid ?_
  replace HZ4 : Hid (Blk w4 39 w3.heap.size zero16) := Lib.hid HZ4
  have hlt3 := HK.out.lt
  replace HK := Lib.hid (HK.out.below hl4 HK.out.lt)
  go_wp2_with (refine wpList_store_addr rfl (.tmp 3) (.tmp 15) rfl w3.heap.size rfl zero16 rfl _ zero16 HZ4.out rfl HX1L.out ?_; intro w5 HG5 hb5 hz5; refine Hid.out ?_)
  refine Lib.hid ?_
  have hl5 : Low w3 w5 := Below.trans hl4 hb5
  replace HK := Lib.hid (HK.out.below hb5 hlt3)
  replace hL : Low w w5 := Low.trans hL hl5
  replace HG5 := Lib.hid HG5
  obtain ⟨g1, hg1⟩ : ∃ g, g = w3.heap.size := ⟨_, rfl⟩
  rw [← hg1] at HG5 ⊢
  clear HZ4 hl4 hb5 hz4 hz5 hlt3 hl5 hg1
  go_wp2_with (with_reducible refine wpList_load_sr rfl (.tmp 1) rfl w.heap.size rfl s HK.out ?_)
  refine (final_any s w5 (HT.out.low hL)).mono ?_
  rintro e w6 ⟨rfl, hB6⟩
  rw [HY2.out, HX2.out]
  replace HK := Lib.hid (HK.out.below hB6 HK.out.lt)
  replace HG5 := Lib.hid (HG5.out.below hB6 HG5.out.lt)
  replace hL := hL.trans hB6
  clear hB6
  unfold addrV
  go_wp2_with ((with_reducible refine wpList_alloc_v rfl 39 rfl (cellsB zero16) addr_zeroR ?_); intro w7 HZ7 hl7 hz7; refine Hid.out ?_)
  refine Lib.hid ?_
  replace HZ7 : Hid (Blk w7 39 w6.heap.size zero16) := Lib.hid HZ7
  have hlt6 := HK.out.lt
  have hlg6 := HG5.out.lt
  replace HK := Lib.hid (HK.out.below hl7 HK.out.lt)
  replace HG5 := Lib.hid (HG5.out.below hl7 HG5.out.lt)
  go_wp2_with (refine wpList_store_addr rfl (.tmp 5) (.tmp 20) rfl w6.heap.size rfl x2 rfl _ zero16 HZ7.out rfl HX2L.out ?_; intro w8 HG8 hb8 hz8; refine Hid.out ?_)
  refine Lib.hid ?_
  have hl8 : Low w6 w8 := Below.trans hl7 hb8
  replace HK := Lib.hid (HK.out.below hb8 hlt6)
  replace HG5 := Lib.hid (HG5.out.below hb8 hlg6)
  replace hL : Low w w8 := Low.trans hL hl8
  replace HG8 := Lib.hid HG8
  obtain ⟨g2, hg2⟩ : ∃ g, g = w6.heap.size := ⟨_, rfl⟩
  rw [← hg2] at HG8 ⊢
  clear HZ7 hl7 hb8 hz7 hz8 hlt6 hlg6 hl8 hg2
  obtain ⟨c0, c1, c2, c3, c4, c5⟩ := BlkR.cells HK.out
  clear c0 c2 c3 c5
  go_wp2_with fail
  refine wp_region_plan (.rd 0 (.rd 1 (.rd 2 (.rd 3 (.rd 4 (.rd 5 (.rd 6 (.rd 7 (.rd 8 (.rd 9 (.rd 10 (.rd 11 (.rd 12 (.rd 13 (.rd 14 (.rd 15 (.rd 16 (.rd 17 (.rd 18 (.rd 19 (.rd 20 (.rd 21 (.rd 22 (.rd 23 (.rd 24 (.rd 25 (.rd 26 (.rd 27 (.rd 28 (.rd 29 (.rd 30 (.rd 31 (.rd 32 (.rd 33 (.rd 34 (.done)))))))))))))))))))))))))))))))))))) (by kernel_rfl) (by kernel_rfl) (fun _ _ d _ _ h => by cases d <;> exact h) (by kernel_rfl) ?_
  replace hL := hL.trans (Below.drew (Below.refl w8.heap.size w8))
  replace HK : Hid (BlkR w8.drew w.heap.size s) := HK
  replace HG5 : Hid (Blk w8.drew 39 g1 _) := HG5
  replace HG8 : Hid (Blk w8.drew 39 g2 _) := HG8
  replace c1 : w8.drew.cell? _ = _ := c1
  replace c4 : w8.drew.cell? _ = _ := c4
  generalize w8.drew = w9 at *
  have hk9 := HK.out.lt
  have hz9 := hL.size
  iterate 35 (first | (refine walkP_read (v := _) rfl (by rfl) (by
      intro y hy
      have e1 := (hy.cell (p := ⟨w.heap.size, 1, none⟩) hk9).trans c1
      have e4 := (hy.cell (p := ⟨w.heap.size, 4, none⟩) hk9).trans c4
      rw [HGA.out] at e4
      have n0 : 0 < s.gm := by omega
      have q2 := neq_same x2 HX2L.out y
      first
        | exact exec_load_addr rfl (HG8.out.below hy HG8.out.lt) HX2L.out
        | exact exec_load_at (b := b) (p := o + 0 * 16) rfl HX2L.out (rangeAt_below (rangeAt_below HR2.out hL hb0) hy (by omega))
        | (go_simp; try rfl)) ?_; simp only [Act.put, List.setIfInBounds_toArray, List.set_cons_zero, List.set_cons_succ]) | (refine walkP_skip rfl (by rfl) ?_; simp only [Act.put, List.setIfInBounds_toArray, List.set_cons_zero, List.set_cons_succ]))
  unfold walkP
  clear c1 c4 hk9
  have q0 : (Op.equalIn 10000 39 (.agg (cellsB zero16).toArray) (.agg #[.int .u8 0, .int .u8 0, .int .u8 0, .int .u8 0, .int .u8 0, .int .u8 0, .int .u8 0, .int .u8 0, .int .u8 0, .int .u8 0, .int .u8 0, .int .u8 0, .int .u8 0, .int .u8 0, .int .u8 0, .int .u8 0])).run Try.prog w9 = .ok true w9 := neq_same zero16 rfl w9
  go_wp2_with (with_reducible refine wpList_load_addr_g rfl (.tmp 3) rfl g1 rfl _ zero16 HG5.out rfl ?_)
  refine (srlives_any _).mono ?_
  rintro e w10 ⟨rfl, hB10⟩
  have hL10 := hL.trans hB10
  clear hB10
  go_wp2_with fail
  go_ret
  exact ⟨rfl, hL10⟩

set_option maxRecDepth 100000 in
set_option maxHeartbeats 3200000 in
theorem srt_cneg (s : Sr) (w : World) (hs : s.ok w w.heap.size) (hsm : smallR s = true) (hg : s.gm = 0) (d1 : decide (0 ≤ s.le) = false) :
    Calls Try.prog 5 #[srV s] w fun e w' => e = .returned (.bool true) ∧ Below w.heap.size w w' := by
  unfold srV
  have HT := Lib.hid hs
  have hgl := hs.sg.len
  have hgm := hs.gm
  have hle := hs.le
  unfold i64ok at hle
  have HY1 := Lib.hid (show thereR s.sg s.le = false from (thereR_no hgl (by have := of_decide_eq_false d1; omega)).1)
  have HX1 := Lib.hid (show segR s.sg s.le = zero16 from (thereR_no hgl (by have := of_decide_eq_false d1; omega)).2)
  have HY2 := Lib.hid (show thereR s.sg 0 = false from (thereR_no hgl (by omega)).1)
  have HX2 := Lib.hid (show segR s.sg 0 = zero16 from (thereR_no hgl (by omega)).2)
  have HX1L := Lib.hid (show zero16.length = 16 from rfl)
  have HX2L := Lib.hid (show zero16.length = 16 from rfl)
  have d3 : decide (0 < (s.gm : Int)) = false := by simp; omega
  have d4 : decide (0 < s.gm) = false := by simp; omega
  clear hg
  have HSM := Lib.hid hsm
  clear hs hsm hgl
  go_enter Try.func5, Try.ntmps5
  go_wp2_with ((with_reducible refine wpList_box_sr rfl (.tmp 0) rfl s rfl ?_); intro w1 HK hL hz1; refine Hid.out ?_)
  refine Lib.hid ?_
  replace HK := Lib.hid HK
  clear hz1
  go_wp2_with (with_reducible refine wpList_load_sr rfl (.tmp 1) rfl w.heap.size rfl s HK.out ?_)
  refine (srsmall_any s w1 HT.out.gm HT.out.tm).mono ?_
  rintro e w2 ⟨rfl, hB2⟩
  rw [HSM.out]
  replace HK := Lib.hid (HK.out.below hB2 HK.out.lt)
  replace hL := hL.trans hB2
  clear hB2
  go_wp2_with (with_reducible refine wpList_load_sr rfl (.tmp 1) rfl w.heap.size rfl s HK.out ?_)
  refine (active_any s w2 (HT.out.low hL)).mono ?_
  rintro e w3 ⟨rfl, hB3⟩
  rw [HY1.out, HX1.out]
  replace HK := Lib.hid (HK.out.below hB3 HK.out.lt)
  replace hL := hL.trans hB3
  clear hB3
  unfold addrV
  go_wp2_with ((with_reducible refine wpList_alloc_v rfl 39 rfl (cellsB zero16) addr_zeroR ?_); intro w4 HZ4 hl4 hz4; refine Hid.out ?_)
  refine Lib.hid ?_
  replace HZ4 : Hid (Blk w4 39 w3.heap.size zero16) := Lib.hid HZ4
  have hlt3 := HK.out.lt
  replace HK := Lib.hid (HK.out.below hl4 HK.out.lt)
  go_wp2_with (refine wpList_store_addr rfl (.tmp 3) (.tmp 15) rfl w3.heap.size rfl zero16 rfl _ zero16 HZ4.out rfl HX1L.out ?_; intro w5 HG5 hb5 hz5; refine Hid.out ?_)
  refine Lib.hid ?_
  have hl5 : Low w3 w5 := Below.trans hl4 hb5
  replace HK := Lib.hid (HK.out.below hb5 hlt3)
  replace hL : Low w w5 := Low.trans hL hl5
  replace HG5 := Lib.hid HG5
  obtain ⟨g1, hg1⟩ : ∃ g, g = w3.heap.size := ⟨_, rfl⟩
  rw [← hg1] at HG5 ⊢
  clear HZ4 hl4 hb5 hz4 hz5 hlt3 hl5 hg1
  go_wp2_with (with_reducible refine wpList_load_sr rfl (.tmp 1) rfl w.heap.size rfl s HK.out ?_)
  refine (final_any s w5 (HT.out.low hL)).mono ?_
  rintro e w6 ⟨rfl, hB6⟩
  rw [HY2.out, HX2.out]
  replace HK := Lib.hid (HK.out.below hB6 HK.out.lt)
  replace HG5 := Lib.hid (HG5.out.below hB6 HG5.out.lt)
  replace hL := hL.trans hB6
  clear hB6
  unfold addrV
  go_wp2_with ((with_reducible refine wpList_alloc_v rfl 39 rfl (cellsB zero16) addr_zeroR ?_); intro w7 HZ7 hl7 hz7; refine Hid.out ?_)
  refine Lib.hid ?_
  replace HZ7 : Hid (Blk w7 39 w6.heap.size zero16) := Lib.hid HZ7
  have hlt6 := HK.out.lt
  have hlg6 := HG5.out.lt
  replace HK := Lib.hid (HK.out.below hl7 HK.out.lt)
  replace HG5 := Lib.hid (HG5.out.below hl7 HG5.out.lt)
  go_wp2_with (refine wpList_store_addr rfl (.tmp 5) (.tmp 20) rfl w6.heap.size rfl zero16 rfl _ zero16 HZ7.out rfl HX2L.out ?_; intro w8 HG8 hb8 hz8; refine Hid.out ?_)
  refine Lib.hid ?_
  have hl8 : Low w6 w8 := Below.trans hl7 hb8
  replace HK := Lib.hid (HK.out.below hb8 hlt6)
  replace HG5 := Lib.hid (HG5.out.below hb8 hlg6)
  replace hL : Low w w8 := Low.trans hL hl8
  replace HG8 := Lib.hid HG8
  obtain ⟨g2, hg2⟩ : ∃ g, g = w6.heap.size := ⟨_, rfl⟩
  rw [← hg2] at HG8 ⊢
  clear HZ7 hl7 hb8 hz7 hz8 hlt6 hlg6 hl8 hg2
  obtain ⟨c0, c1, c2, c3, c4, c5⟩ := BlkR.cells HK.out
  clear c0 c2 c3 c5
  go_wp2_with fail
  refine wp_region_plan (.rd 0 (.rd 1 (.rd 2 (.rd 3 (.rd 4 (.rd 5 (.rd 6 (.rd 7 (.rd 8 (.rd 9 (.rd 10 (.rd 11 (.rd 12 (.rd 13 (.rd 14 (.rd 15 (.rd 16 (.rd 17 (.rd 18 (.rd 19 (.rd 20 (.rd 21 (.rd 22 (.rd 23 (.rd 24 (.rd 25 (.rd 26 (.rd 27 (.rd 28 (.rd 29 (.rd 30 (.rd 31 (.rd 32 (.rd 33 (.rd 34 (.done)))))))))))))))))))))))))))))))))))) (by kernel_rfl) (by kernel_rfl) (fun _ _ d _ _ h => by cases d <;> exact h) (by kernel_rfl) ?_
  replace hL := hL.trans (Below.drew (Below.refl w8.heap.size w8))
  replace HK : Hid (BlkR w8.drew w.heap.size s) := HK
  replace HG5 : Hid (Blk w8.drew 39 g1 _) := HG5
  replace HG8 : Hid (Blk w8.drew 39 g2 _) := HG8
  replace c1 : w8.drew.cell? _ = _ := c1
  replace c4 : w8.drew.cell? _ = _ := c4
  generalize w8.drew = w9 at *
  have hk9 := HK.out.lt
  have hz9 := hL.size
  iterate 35 (first | (refine walkP_read (v := _) rfl (by rfl) (by
      intro y hy
      have e1 := (hy.cell (p := ⟨w.heap.size, 1, none⟩) hk9).trans c1
      have e4 := (hy.cell (p := ⟨w.heap.size, 4, none⟩) hk9).trans c4
      go_simp; try rfl) ?_; simp only [Act.put, List.setIfInBounds_toArray, List.set_cons_zero, List.set_cons_succ]) | (refine walkP_skip rfl (by rfl) ?_; simp only [Act.put, List.setIfInBounds_toArray, List.set_cons_zero, List.set_cons_succ]))
  unfold walkP
  clear c1 c4 hk9
  have q0 : (Op.equalIn 10000 39 (.agg (cellsB zero16).toArray) (.agg #[.int .u8 0, .int .u8 0, .int .u8 0, .int .u8 0, .int .u8 0, .int .u8 0, .int .u8 0, .int .u8 0, .int .u8 0, .int .u8 0, .int .u8 0, .int .u8 0, .int .u8 0, .int .u8 0, .int .u8 0, .int .u8 0])).run Try.prog w9 = .ok true w9 := neq_same zero16 rfl w9
  go_wp2_with (first | (with_reducible refine wpList_load_addr_g rfl (.tmp 3) rfl g1 rfl _ zero16 HG5.out rfl ?_) | (with_reducible refine wpList_load_addr_g rfl (.tmp 5) rfl g2 rfl _ zero16 HG8.out rfl ?_))
  refine (srlives_any _).mono ?_
  rintro e w10 ⟨rfl, hB10⟩
  have hL10 := hL.trans hB10
  clear hB10
  go_wp2_with fail
  go_ret
  exact ⟨rfl, hL10⟩

set_option maxRecDepth 100000 in
set_option maxHeartbeats 3200000 in
theorem srt_cover (s : Sr) (w : World) (hs : s.ok w w.heap.size) (hsm : smallR s = true) (hg : s.gm = 0) (d1 : decide (0 ≤ s.le) = true) (d2 : decide (s.le < s.gm) = false) :
    Calls Try.prog 5 #[srV s] w fun e w' => e = .returned (.bool true) ∧ Below w.heap.size w w' := by
  unfold srV
  have HT := Lib.hid hs
  have hgl := hs.sg.len
  have hgm := hs.gm
  have hle := hs.le
  unfold i64ok at hle
  have HY1 := Lib.hid (show thereR s.sg s.le = false from (thereR_no hgl (by have := of_decide_eq_true d1; have := of_decide_eq_false d2; omega)).1)
  have HX1 := Lib.hid (show segR s.sg s.le = zero16 from (thereR_no hgl (by have := of_decide_eq_true d1; have := of_decide_eq_false d2; omega)).2)
  have HY2 := Lib.hid (show thereR s.sg 0 = false from (thereR_no hgl (by omega)).1)
  have HX2 := Lib.hid (show segR s.sg 0 = zero16 from (thereR_no hgl (by omega)).2)
  have HX1L := Lib.hid (show zero16.length = 16 from rfl)
  have HX2L := Lib.hid (show zero16.length = 16 from rfl)
  have d3 : decide (0 < (s.gm : Int)) = false := by simp; omega
  have d4 : decide (0 < s.gm) = false := by simp; omega
  clear hg
  have HSM := Lib.hid hsm
  clear hs hsm hgl
  go_enter Try.func5, Try.ntmps5
  go_wp2_with ((with_reducible refine wpList_box_sr rfl (.tmp 0) rfl s rfl ?_); intro w1 HK hL hz1; refine Hid.out ?_)
  refine Lib.hid ?_
  replace HK := Lib.hid HK
  clear hz1
  go_wp2_with (with_reducible refine wpList_load_sr rfl (.tmp 1) rfl w.heap.size rfl s HK.out ?_)
  refine (srsmall_any s w1 HT.out.gm HT.out.tm).mono ?_
  rintro e w2 ⟨rfl, hB2⟩
  rw [HSM.out]
  replace HK := Lib.hid (HK.out.below hB2 HK.out.lt)
  replace hL := hL.trans hB2
  clear hB2
  go_wp2_with (with_reducible refine wpList_load_sr rfl (.tmp 1) rfl w.heap.size rfl s HK.out ?_)
  refine (active_any s w2 (HT.out.low hL)).mono ?_
  rintro e w3 ⟨rfl, hB3⟩
  rw [HY1.out, HX1.out]
  replace HK := Lib.hid (HK.out.below hB3 HK.out.lt)
  replace hL := hL.trans hB3
  clear hB3
  unfold addrV
  go_wp2_with ((with_reducible refine wpList_alloc_v rfl 39 rfl (cellsB zero16) addr_zeroR ?_); intro w4 HZ4 hl4 hz4; refine Hid.out ?_)
  refine Lib.hid ?_
  replace HZ4 : Hid (Blk w4 39 w3.heap.size zero16) := Lib.hid HZ4
  have hlt3 := HK.out.lt
  replace HK := Lib.hid (HK.out.below hl4 HK.out.lt)
  go_wp2_with (refine wpList_store_addr rfl (.tmp 3) (.tmp 15) rfl w3.heap.size rfl zero16 rfl _ zero16 HZ4.out rfl HX1L.out ?_; intro w5 HG5 hb5 hz5; refine Hid.out ?_)
  refine Lib.hid ?_
  have hl5 : Low w3 w5 := Below.trans hl4 hb5
  replace HK := Lib.hid (HK.out.below hb5 hlt3)
  replace hL : Low w w5 := Low.trans hL hl5
  replace HG5 := Lib.hid HG5
  obtain ⟨g1, hg1⟩ : ∃ g, g = w3.heap.size := ⟨_, rfl⟩
  rw [← hg1] at HG5 ⊢
  clear HZ4 hl4 hb5 hz4 hz5 hlt3 hl5 hg1
  go_wp2_with (with_reducible refine wpList_load_sr rfl (.tmp 1) rfl w.heap.size rfl s HK.out ?_)
  refine (final_any s w5 (HT.out.low hL)).mono ?_
  rintro e w6 ⟨rfl, hB6⟩
  rw [HY2.out, HX2.out]
  replace HK := Lib.hid (HK.out.below hB6 HK.out.lt)
  replace HG5 := Lib.hid (HG5.out.below hB6 HG5.out.lt)
  replace hL := hL.trans hB6
  clear hB6
  unfold addrV
  go_wp2_with ((with_reducible refine wpList_alloc_v rfl 39 rfl (cellsB zero16) addr_zeroR ?_); intro w7 HZ7 hl7 hz7; refine Hid.out ?_)
  refine Lib.hid ?_
  replace HZ7 : Hid (Blk w7 39 w6.heap.size zero16) := Lib.hid HZ7
  have hlt6 := HK.out.lt
  have hlg6 := HG5.out.lt
  replace HK := Lib.hid (HK.out.below hl7 HK.out.lt)
  replace HG5 := Lib.hid (HG5.out.below hl7 HG5.out.lt)
  go_wp2_with (refine wpList_store_addr rfl (.tmp 5) (.tmp 20) rfl w6.heap.size rfl zero16 rfl _ zero16 HZ7.out rfl HX2L.out ?_; intro w8 HG8 hb8 hz8; refine Hid.out ?_)
  refine Lib.hid ?_
  have hl8 : Low w6 w8 := Below.trans hl7 hb8
  replace HK := Lib.hid (HK.out.below hb8 hlt6)
  replace HG5 := Lib.hid (HG5.out.below hb8 hlg6)
  replace hL : Low w w8 := Low.trans hL hl8
  replace HG8 := Lib.hid HG8
  obtain ⟨g2, hg2⟩ : ∃ g, g = w6.heap.size := ⟨_, rfl⟩
  rw [← hg2] at HG8 ⊢
  clear HZ7 hl7 hb8 hz7 hz8 hlt6 hlg6 hl8 hg2
  obtain ⟨c0, c1, c2, c3, c4, c5⟩ := BlkR.cells HK.out
  clear c0 c2 c3 c5
  go_wp2_with fail
  refine wp_region_plan (.rd 0 (.rd 1 (.rd 2 (.rd 3 (.rd 4 (.rd 5 (.rd 6 (.rd 7 (.rd 8 (.rd 9 (.rd 10 (.rd 11 (.rd 12 (.rd 13 (.rd 14 (.rd 15 (.rd 16 (.rd 17 (.rd 18 (.rd 19 (.rd 20 (.rd 21 (.rd 22 (.rd 23 (.rd 24 (.rd 25 (.rd 26 (.rd 27 (.rd 28 (.rd 29 (.rd 30 (.rd 31 (.rd 32 (.rd 33 (.rd 34 (.done)))))))))))))))))))))))))))))))))))) (by kernel_rfl) (by kernel_rfl) (fun _ _ d _ _ h => by cases d <;> exact h) (by kernel_rfl) ?_
  replace hL := hL.trans (Below.drew (Below.refl w8.heap.size w8))
  replace HK : Hid (BlkR w8.drew w.heap.size s) := HK
  replace HG5 : Hid (Blk w8.drew 39 g1 _) := HG5
  replace HG8 : Hid (Blk w8.drew 39 g2 _) := HG8
  replace c1 : w8.drew.cell? _ = _ := c1
  replace c4 : w8.drew.cell? _ = _ := c4
  generalize w8.drew = w9 at *
  have hk9 := HK.out.lt
  have hz9 := hL.size
  iterate 35 (first | (refine walkP_read (v := _) rfl (by rfl) (by
      intro y hy
      have e1 := (hy.cell (p := ⟨w.heap.size, 1, none⟩) hk9).trans c1
      have e4 := (hy.cell (p := ⟨w.heap.size, 4, none⟩) hk9).trans c4
      go_simp; try rfl) ?_; simp only [Act.put, List.setIfInBounds_toArray, List.set_cons_zero, List.set_cons_succ]) | (refine walkP_skip rfl (by rfl) ?_; simp only [Act.put, List.setIfInBounds_toArray, List.set_cons_zero, List.set_cons_succ]))
  unfold walkP
  clear c1 c4 hk9
  have q0 : (Op.equalIn 10000 39 (.agg (cellsB zero16).toArray) (.agg #[.int .u8 0, .int .u8 0, .int .u8 0, .int .u8 0, .int .u8 0, .int .u8 0, .int .u8 0, .int .u8 0, .int .u8 0, .int .u8 0, .int .u8 0, .int .u8 0, .int .u8 0, .int .u8 0, .int .u8 0, .int .u8 0])).run Try.prog w9 = .ok true w9 := neq_same zero16 rfl w9
  go_wp2_with (first | (with_reducible refine wpList_load_addr_g rfl (.tmp 3) rfl g1 rfl _ zero16 HG5.out rfl ?_) | (with_reducible refine wpList_load_addr_g rfl (.tmp 5) rfl g2 rfl _ zero16 HG8.out rfl ?_))
  refine (srlives_any _).mono ?_
  rintro e w10 ⟨rfl, hB10⟩
  have hL10 := hL.trans hB10
  clear hB10
  go_wp2_with fail
  go_ret
  exact ⟨rfl, hL10⟩

set_option maxRecDepth 100000 in
set_option maxHeartbeats 1600000 in
theorem srt_big (s : Sr) (w : World) (hs : s.ok w w.heap.size) (hsm : smallR s = false) :
    Calls Try.prog 5 #[srV s] w fun e w' => e = .returned (.bool true) ∧ Below w.heap.size w w' := by
  unfold srV
  have HT := Lib.hid hs
  have HSM := Lib.hid hsm
  clear hs hsm
  go_enter Try.func5, Try.ntmps5
  go_wp2_with ((with_reducible refine wpList_box_sr rfl (.tmp 0) rfl s rfl ?_); intro w1 HK hL hz1; refine Hid.out ?_)
  refine Lib.hid ?_
  replace HK := Lib.hid HK
  clear hz1
  go_wp2_with (with_reducible refine wpList_load_sr rfl (.tmp 1) rfl w.heap.size rfl s HK.out ?_)
  refine (srsmall_any s w1 HT.out.gm HT.out.tm).mono ?_
  rintro e w2 ⟨rfl, hB2⟩
  rw [HSM.out]
  replace hL := hL.trans hB2
  clear hB2
  go_wp2_with fail
  refine (srlives_any _).mono ?_
  rintro e w3 ⟨rfl, hB3⟩
  replace hL := hL.trans hB3
  clear hB3
  go_wp2_with fail
  go_ret
  exact ⟨rfl, hL⟩
theorem srt_walk (s : Sr) (w : World) (hs : s.ok w w.heap.size) :
    Calls Try.prog 5 #[srV s] w fun e w' => e = .returned (.bool true) ∧ Below w.heap.size w w' := by
  cases hsm : smallR s
  · exact srt_big s w hs hsm
  · by_cases h0 : 0 ≤ s.le
    · by_cases h1 : s.le < s.gm
      · exact srt_yes s w hs hsm s.le.toNat (by omega) (by omega)
      · by_cases hg : 0 < s.gm
        · exact srt_bover s w hs hsm hg (by simpa using h0) (by simpa using h1)
        · exact srt_cover s w hs hsm (by omega) (by simpa using h0) (by simpa using h1)
    · by_cases hg : 0 < s.gm
      · exact srt_bneg s w hs hsm hg (by simpa using h0)
      · exact srt_cneg s w hs hsm (by omega) (by simpa using h0)
end Go.Proofs.Ytnfiijbnfmcpjaa
