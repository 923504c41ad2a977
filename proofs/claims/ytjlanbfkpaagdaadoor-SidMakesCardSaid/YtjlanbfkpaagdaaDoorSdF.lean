/- What the document's own Make and Node of segments tell. No condition beyond the arguments' types. -/
import Derived.Test.YtjlanbfkpaagdaaDoorSdE
namespace Go.Proofs.YtjlanbfkpaagdaaDoor
open Go.RowKit
set_option linter.unusedVariables false

set_option maxRecDepth 100000 in
set_option maxHeartbeats 3200000 in
theorem rmake_noD (n d a : Int) (w : World) (h : canD n d = false) :
    Calls Tryd.prog 7 #[sidV n d a] w fun e w' => e = .returned (.tuple #[addrV zero16, .int .i64 2]) ∧ Below w.heap.size w w' := by
  have hc : ¬ (0 ≤ n ∧ n ≤ 65535 ∧ 0 ≤ d ∧ d ≤ 255) := of_decide_eq_false h
  have key : n < 0 ∨ (0 ≤ n ∧ 65535 < n) ∨ (0 ≤ n ∧ n ≤ 65535 ∧ d < 0) ∨ (0 ≤ n ∧ n ≤ 65535 ∧ 0 ≤ d ∧ 255 < d) := by omega
  clear h hc
  unfold sidV
  rcases key with h1 | h1 | h1 | h1
  all_goals
    go_enter Tryd.func7, Tryd.ntmps7
    go_wp2_with (first | ((with_reducible refine wpList_box_v rfl 24 (.tmp 0) rfl [.int .i64 n, .int .i64 d, .int .u32 a] rfl ?_); intro w1 HB hL hz1) | ((with_reducible refine wpList_alloc_v rfl 26 rfl (cellsB zero16) addr_zeroD ?_); intro w2 HZ0 hL2 hz2; refine Hid.out ?_))
    refine Lib.hid ?_
    rw [hz1] at HZ0
    have HZ : Hid (Blk w2 26 (w.heap.size + 1) zero16) := Lib.hid HZ0
    replace HB := HB.below hL2 HB.lt
    replace hL : Low w w2 := hL.trans hL2
    have c0 : w2.cell? ⟨w.heap.size, 0, none⟩ = some (.int .i64 n) := HB.cell 0
    have c1 : w2.cell? ⟨w.heap.size, 1, none⟩ = some (.int .i64 d) := HB.cell 1
    clear HZ0 hz1 hz2 hL2 HB
    go_wp2_with (refine wpList_store_addr rfl (.tmp 2) (.tmp 26) rfl (w.heap.size + 1) rfl zero16 rfl _ zero16 HZ.out rfl rfl ?_; intro w4 HG hb4 hz4; refine Hid.out ?_)
    refine Lib.hid ?_
    replace HG := Lib.hid HG
    go_wp2_with fail
    exact ret_addrD Tryd.results7 rfl rfl HG.out rfl ⟨rfl, Below.trans hL (hb4.mono (by omega))⟩ rfl

set_option maxHeartbeats 400000 in
theorem rfour_new (x : Int) (w : World) (hx : 0 ≤ x ∧ x < 4294967296) :
    Calls Tryd.prog 22 #[.int .u32 x] w fun e w' => ∃ g o c, e = .returned (.slice (some ⟨g, o, none⟩) 4 c) ∧ w.heap.size ≤ g ∧ Bs w' w'.heap.size (some ⟨g, o, none⟩) 4 (four x) ∧ Below w.heap.size w w' := by
  obtain ⟨i0, hi, hz0, hz1, hz2⟩ := info_parts info5
  have HI := Lib.hid hi
  have HZ0 := Lib.hid hz0
  have HZ1 := Lib.hid hz1
  have HZ2 := Lib.hid hz2
  clear hi hz0 hz1 hz2
  go_enter Tryd.func22, Tryd.ntmps22
  go_wp2_with fail
  refine (rtwo_any (x / 65536) w (by unfold i64ok; omega)).mono ?_
  rintro e w1 ⟨v, rfl, g1, rfl, hg1, hk1, hl1, ha1, hB1⟩
  go_wp2_with fail
  refine (rtwo_any (x % 65536) w1 (by unfold i64ok; omega)).mono ?_
  rintro e w2 ⟨v, rfl, g2, rfl, hg2, hk2, hl2, ha2, hB2⟩
  have hB := hB1.trans (hB2.mono hB1.size)
  have hO := OwnB.ofBlk (base := w.heap.size) (hk1.below hB2 hk1.lt) ha1 hg1 hl1 (by simp only [maxLen]; omega)
  have hs := hk2.bs ha2 hk2.lt hl2
  clear hB1 hB2 hk1 hk2 hg1 hg2 hl1 hl2
  go_wp2_with (at_builtin; refine wpList_append_bs rfl (.tmp 6) (.tmp 10) _ rfl w.heap.size 5 i0 Tryd.underlying38 HI.out HZ0.out HZ1.out HZ2.out _ 2 2 (two (x / 65536)) rfl hO _ 2 2 w2.heap.size (two (x % 65536)) rfl hs (by omega) hB.size ?_; intro A3 c3 w3 hO3 hg3 hb3)
  go_ret
  have hb := hO3.bs (Nat.le_refl _)
  rw [four_two x hx] at hb
  obtain ⟨b, o, rfl, hbl, -⟩ := hb.mem (by omega)
  exact ⟨b, o, c3, rfl, (hO3.lt b rfl).1, hb, hB.grown hg3 hB.size (fun k hk => (hO.lt k hk).1)⟩

/-- the bytes so far, k of the last four -/
def rowD (n d a : Int) (k : Nat) : List Int := head8D ++ two n ++ [d, 0] ++ (four a).take k ++ zero16.take (4 - k)
theorem cell_farD {w : World} {p q : Addr} {v : Value} (h : w.cell? p = some v) (hn : p.block ≠ q.block) (u : Value) : (w.setCell q u).cell? p = some v := by
  rw [World.cell?_setCell_other _ _ _ _ (fun e => hn (by rw [e]))]
  exact h

set_option maxRecDepth 100000 in
set_option maxHeartbeats 12800000 in
theorem rmake_yesD (n d a : Int) (w : World) (h : canD n d = true) (ha : 0 ≤ a ∧ a < 4294967296) :
    Calls Tryd.prog 7 #[sidV n d a] w fun e w' => e = .returned (.tuple #[addrV (laidD n d a), .int .i64 0]) ∧ Below w.heap.size w w' := by
  have hc : 0 ≤ n ∧ n ≤ 65535 ∧ 0 ≤ d ∧ d ≤ 255 := of_decide_eq_true h
  have h1 : 0 ≤ n := hc.1
  have h2 : n ≤ 65535 := hc.2.1
  have h3 : 0 ≤ d := hc.2.2.1
  have h4 : d ≤ 255 := hc.2.2.2
  have HA := Lib.hid ha
  clear h hc ha
  unfold sidV
  go_enter Tryd.func7, Tryd.ntmps7
  go_wp2_with (first | ((with_reducible refine wpList_box_v rfl 24 (.tmp 0) rfl [.int .i64 n, .int .i64 d, .int .u32 a] rfl ?_); intro w1 HB hL hz1) | ((with_reducible refine wpList_alloc_v rfl 26 rfl (cellsB zero16) addr_zeroD ?_); intro w2 HZ0 hL2 hz2; refine Hid.out ?_))
  refine Lib.hid ?_
  rw [hz1] at HZ0
  have HZ : Hid (Blk w2 26 (w.heap.size + 1) zero16) := Lib.hid HZ0
  replace HB := HB.below hL2 HB.lt
  replace hL : Low w w2 := hL.trans hL2
  have c0 : w2.cell? ⟨w.heap.size, 0, none⟩ = some (.int .i64 n) := HB.cell 0
  have c1 : w2.cell? ⟨w.heap.size, 1, none⟩ = some (.int .i64 d) := HB.cell 1
  replace HB := Lib.hid HB
  clear HZ0 hz1 hz2 hL2
  go_wp2_with ((with_reducible refine wpList_alloc_v rfl 26 rfl (cellsB zero16) addr_zeroD ?_); intro w3 HY hl hz3; refine Hid.out ?_)
  refine Lib.hid ?_
  replace HY : Blk w3 26 w2.heap.size zero16 := HY
  have hg0 := HZ.out.lt
  have hg1 := hL.size
  replace HB := Lib.hid (HB.out.below hl HB.out.lt)
  replace HZ := Lib.hid (HZ.out.below hl HZ.out.lt)
  replace hL := hL.trans hl
  have hG : w.heap.size + 1 < w2.heap.size := hg0
  obtain ⟨G, hGe⟩ : ∃ g, g = w2.heap.size := ⟨_, rfl⟩
  rw [← hGe] at HY hG ⊢
  clear hl hz3 c0 c1 hg0 hg1 hGe
  have k0 : w3.cell? ⟨G, 0, none⟩ = some (.int .u8 0) := HY.cell 0
  have k1 : w3.cell? ⟨G, 1, none⟩ = some (.int .u8 0) := HY.cell 1
  have k3 : w3.cell? ⟨G, 3, none⟩ = some (.int .u8 0) := HY.cell 3
  have f0 := HY.frozen 0
  have f1 := HY.frozen 1
  have f3 := HY.frozen 3
  replace HY := Lib.hid HY
  go_wp2_with fail
  have HY4 : Hid (Blk (((w3.setCell ⟨G, 0, none⟩ (.int .u8 253)).setCell ⟨G, 1, none⟩ (.int .u8 108)).setCell ⟨G, 3, none⟩ (.int .u8 98)) 26 G (head8D ++ zero16.take 8)) := Lib.hid (((HY.out.set_ 0 253).set_ 1 108).set_ 3 98)
  have HB4 : Hid (BlkV (((w3.setCell ⟨G, 0, none⟩ (.int .u8 253)).setCell ⟨G, 1, none⟩ (.int .u8 108)).setCell ⟨G, 3, none⟩ (.int .u8 98)) 24 w.heap.size [.int .i64 n, .int .i64 d, .int .u32 a]) := Lib.hid (((HB.out.far (by dsimp only; omega) _).far (by dsimp only; omega) _).far (by dsimp only; omega) _)
  have HZ4 : Hid (Blk (((w3.setCell ⟨G, 0, none⟩ (.int .u8 253)).setCell ⟨G, 1, none⟩ (.int .u8 108)).setCell ⟨G, 3, none⟩ (.int .u8 98)) 26 (w.heap.size + 1) zero16) := Lib.hid (((HZ.out.far (by dsimp only; omega) _).far (by dsimp only; omega) _).far (by dsimp only; omega) _)
  have hL4 : Low w (((w3.setCell ⟨G, 0, none⟩ (.int .u8 253)).setCell ⟨G, 1, none⟩ (.int .u8 108)).setCell ⟨G, 3, none⟩ (.int .u8 98)) := (((hL.setCell (by dsimp only; omega) _).setCell (by dsimp only; omega) _).setCell (by dsimp only; omega) _)
  clear HY HB HZ hL k0 k1 k3 f0 f1 f3
  generalize ((w3.setCell ⟨G, 0, none⟩ (.int .u8 253)).setCell ⟨G, 1, none⟩ (.int .u8 108)).setCell ⟨G, 3, none⟩ (.int .u8 98) = w4 at *
  refine wp_region_plan (.rd 0 (.rd 1 (.rd 3 (.rd 4 (.act 2 (.act 5 (.rd 6 (.rd 7 (.done)))))))))
    (by kernel_rfl) (by kernel_rfl) (fun _ _ d _ _ h => by cases d <;> exact h) (by kernel_rfl) ?_
  have hDR : Low w4 w4.drew := Below.drew (Below.refl _ _)
  replace hL4 := hL4.trans hDR
  replace HB4 : Hid (BlkV w4.drew 24 w.heap.size [.int .i64 n, .int .i64 d, .int .u32 a]) := HB4
  replace HZ4 : Hid (Blk w4.drew 26 (w.heap.size + 1) zero16) := HZ4
  replace HY4 : Hid (Blk w4.drew 26 G (head8D ++ zero16.take 8)) := HY4
  clear hDR
  generalize w4.drew = w5 at *
  have c0 : w5.cell? ⟨w.heap.size, 0, none⟩ = some (.int .i64 n) := HB4.out.cell 0
  have c2 : w5.cell? ⟨w.heap.size, 2, none⟩ = some (.int .u32 a) := HB4.out.cell 2
  have hlt := HB4.out.lt
  iterate 4 (refine walkP_read (v := _) rfl (by rfl) (by
      intro y hy
      have e0 := (hy.cell (p := ⟨w.heap.size, 0, none⟩) hlt).trans c0
      have e2 := (hy.cell (p := ⟨w.heap.size, 2, none⟩) hlt).trans c2
      go_simp; try rfl) ?_; simp only [Act.put, List.setIfInBounds_toArray, List.set_cons_zero, List.set_cons_succ])
  clear c0 c2 hlt
  refine walkP_act rfl (by rfl) (fun K hK => ?_)
  go_simp
  refine (rtwo_any n w5 (by unfold i64ok; omega)).mono ?_
  rintro e w6 ⟨v, rfl, g6, rfl, hg6, hk6, hl6, ha6, hl⟩
  go_simp
  refine hK _ _ hl ?_
  clear hK K
  have hG6 : G < g6 := by have := HY4.out.lt; omega
  have hW6 : w.heap.size < g6 := by omega
  replace hL4 := hL4.trans hl
  replace HB4 := Lib.hid (HB4.out.below hl HB4.out.lt)
  replace HZ4 := Lib.hid (HZ4.out.below hl HZ4.out.lt)
  replace HY4 := Lib.hid (HY4.out.below hl HY4.out.lt)
  have HK6 : Hid (Blk w6 5 g6 [n / 256 % 256, n % 256]) := Lib.hid hk6
  clear hl hg6 hk6 hl6 ha6
  refine walkP_act rfl (by rfl) (fun K hK => ?_)
  go_simp
  refine (rfour_new a w6 HA.out).mono ?_
  rintro e w7 ⟨b, o, c, rfl, hbg, hbs, hl⟩
  have hGb : G < b := by have := HY4.out.lt; omega
  go_simp
  refine hK _ _ hl ?_
  clear hK K
  replace hL4 := hL4.trans hl
  replace HB4 := Lib.hid (HB4.out.below hl HB4.out.lt)
  replace HZ4 := Lib.hid (HZ4.out.below hl HZ4.out.lt)
  replace HY4 := Lib.hid (HY4.out.below hl HY4.out.lt)
  replace HK6 := Lib.hid (HK6.out.below hl HK6.out.lt)
  have HU := Lib.hid hbs
  clear hl hbs hbg
  iterate 2 (refine walkP_read (v := _) rfl (by rfl) (by intro y hy; go_simp; try rfl) ?_; simp only [Act.put, List.setIfInBounds_toArray, List.set_cons_zero, List.set_cons_succ])
  unfold walkP
  have c1 : w7.cell? ⟨w.heap.size, 1, none⟩ = some (.int .i64 d) := HB4.out.cell 1
  have g0 : w7.cell? ⟨g6, 0, none⟩ = some (.int .u8 (n / 256 % 256)) := HK6.out.cell 0
  have g1 : w7.cell? ⟨g6, 1, none⟩ = some (.int .u8 (n % 256)) := HK6.out.cell 1
  have k1 : IntKind.u8.wrap d = d := by rw [IntKind.wrap_u8]; omega
  go_wp2_with fail
  refine wp_region_planS (fun y => y.cell? ⟨g6, 0, none⟩ = some (.int .u8 (n / 256 % 256)) ∧ y.cell? ⟨g6, 1, none⟩ = some (.int .u8 (n % 256)) ∧ y.cell? ⟨w.heap.size, 1, none⟩ = some (.int .i64 d))
    (.rd 0 (.rd 1 (.rd 2 (.rd 3 (.rd 4 (.rd 5 (.rd 6 (.rd 7 (.rd 8 (.rd 9 (.act 10 (.rd 11 (.act 12 (.rd 13 (.act 14 (.done))))))))))))))))
    (by kernel_rfl) (by kernel_rfl) (fun _ _ d _ _ h => by cases d <;> exact h) (by kernel_rfl) ⟨g0, g1, c1⟩ ?_
  replace hL4 : Low w w7.drew := hL4.trans (Below.drew (Below.refl _ _))
  replace HB4 : Hid (BlkV w7.drew 24 w.heap.size [.int .i64 n, .int .i64 d, .int .u32 a]) := HB4
  replace HZ4 : Hid (Blk w7.drew 26 (w.heap.size + 1) zero16) := HZ4
  replace HY4 : Hid (Blk w7.drew 26 G (head8D ++ zero16.take 8)) := HY4
  replace HU : Hid (Bs w7.drew w7.drew.heap.size (some ⟨b, o, none⟩) 4 (four a)) := Lib.hid HU.out.drew
  replace g0 : Hid (w7.drew.cell? ⟨g6, 0, none⟩ = some (.int .u8 (n / 256 % 256))) := Lib.hid g0
  replace g1 : Hid (w7.drew.cell? ⟨g6, 1, none⟩ = some (.int .u8 (n % 256))) := Lib.hid g1
  replace c1 : Hid (w7.drew.cell? ⟨w.heap.size, 1, none⟩ = some (.int .i64 d)) := Lib.hid c1
  clear HK6
  generalize w7.drew = w8 at *
  iterate 10 (refine walkS_read (v := _) rfl (by rfl) (by rintro y ⟨e0, e1, e2⟩; go_simp; try rfl) ?_; simp only [Act.put, List.setIfInBounds_toArray, List.set_cons_zero, List.set_cons_succ])
  have k8 : w8.cell? ⟨G, 8, none⟩ = some (.int .u8 0) := HY4.out.cell 8
  have k9 : w8.cell? ⟨G, 9, none⟩ = some (.int .u8 0) := HY4.out.cell 9
  have k10 : w8.cell? ⟨G, 10, none⟩ = some (.int .u8 0) := HY4.out.cell 10
  have f8 := HY4.out.frozen 8
  have f9 := HY4.out.frozen 9
  have f10 := HY4.out.frozen 10
  refine walkS_act rfl (by rfl) (fun K hK => ?_)
  go_simp
  refine hK _ _ ⟨cell_farD g0.out (by dsimp only; omega) _, cell_farD g1.out (by dsimp only; omega) _, cell_farD c1.out (by dsimp only; omega) _⟩ ?_
  clear hK K
  iterate 1 (refine walkS_read (v := _) rfl (by rfl) (by rintro y ⟨e0, e1, e2⟩; go_simp; try rfl) ?_; simp only [Act.put, List.setIfInBounds_toArray, List.set_cons_zero, List.set_cons_succ])
  refine walkS_act rfl (by rfl) (fun K hK => ?_)
  go_simp
  refine hK _ _ ⟨cell_farD (cell_farD g0.out (by dsimp only; omega) _) (by dsimp only; omega) _, cell_farD (cell_farD g1.out (by dsimp only; omega) _) (by dsimp only; omega) _, cell_farD (cell_farD c1.out (by dsimp only; omega) _) (by dsimp only; omega) _⟩ ?_
  clear hK K
  iterate 1 (refine walkS_read (v := _) rfl (by rfl) (by rintro y ⟨e0, e1, e2⟩; go_simp; try rfl) ?_; simp only [Act.put, List.setIfInBounds_toArray, List.set_cons_zero, List.set_cons_succ])
  refine walkS_act rfl (by rfl) (fun K hK => ?_)
  go_simp
  refine hK _ _ ⟨cell_farD (cell_farD (cell_farD g0.out (by dsimp only; omega) _) (by dsimp only; omega) _) (by dsimp only; omega) _, cell_farD (cell_farD (cell_farD g1.out (by dsimp only; omega) _) (by dsimp only; omega) _) (by dsimp only; omega) _, cell_farD (cell_farD (cell_farD c1.out (by dsimp only; omega) _) (by dsimp only; omega) _) (by dsimp only; omega) _⟩ ?_
  clear hK K
  unfold walkS
  have HY9 : Hid (Blk (((w8.setCell ⟨G, 8, none⟩ (.int .u8 (n / 256 % 256))).setCell ⟨G, 9, none⟩ (.int .u8 (n % 256))).setCell ⟨G, 10, none⟩ (.int .u8 d)) 26 G (rowD n d a 0)) := Lib.hid (((HY4.out.set_ 8 (n / 256 % 256)).set_ 9 (n % 256)).set_ 10 d)
  have HZ9 : Hid (Blk (((w8.setCell ⟨G, 8, none⟩ (.int .u8 (n / 256 % 256))).setCell ⟨G, 9, none⟩ (.int .u8 (n % 256))).setCell ⟨G, 10, none⟩ (.int .u8 d)) 26 (w.heap.size + 1) zero16) := Lib.hid (((HZ4.out.far (by dsimp only; omega) _).far (by dsimp only; omega) _).far (by dsimp only; omega) _)
  have hL9 : Low w (((w8.setCell ⟨G, 8, none⟩ (.int .u8 (n / 256 % 256))).setCell ⟨G, 9, none⟩ (.int .u8 (n % 256))).setCell ⟨G, 10, none⟩ (.int .u8 d)) := (((hL4.setCell (by dsimp only; omega) _).setCell (by dsimp only; omega) _).setCell (by dsimp only; omega) _)
  have HU9 : Hid (∀ i, i < 4 → (((w8.setCell ⟨G, 8, none⟩ (.int .u8 (n / 256 % 256))).setCell ⟨G, 9, none⟩ (.int .u8 (n % 256))).setCell ⟨G, 10, none⟩ (.int .u8 d)).cell? ⟨b, o + i, none⟩ = some (.int .u8 ((four a).getD i 0))) := Lib.hid fun i hi => by
    obtain ⟨b', o', e, -, hu⟩ := HU.out.at_ (show 0 < 4 by omega)
    injection e with e
    injection e with e1 e2 _
    subst e1 e2
    exact cell_farD (cell_farD (cell_farD (hu i hi) (by dsimp only; omega) _) (by dsimp only; omega) _) (by dsimp only; omega) _
  clear HU HY4 HZ4 HB4 hL4 g0 g1 c1 k8 k9 k10 f8 f9 f10
  generalize ((w8.setCell ⟨G, 8, none⟩ (.int .u8 (n / 256 % 256))).setCell ⟨G, 9, none⟩ (.int .u8 (n % 256))).setCell ⟨G, 10, none⟩ (.int .u8 d) = w9 at *
  have hq : 12 < b + 12 := by omega
  go_wp2_with fail
  go_loopw [7] (fun i wr => ∃ k : Nat, k ≤ 4 ∧ i = .int .i64 k ∧ Hid (Blk wr 26 G (rowD n d a k)) ∧ Hid (Blk wr 26 (w.heap.size + 1) zero16) ∧ Hid (∀ i, i < 4 → wr.cell? ⟨b, o + i, none⟩ = some (.int .u8 ((four a).getD i 0))) ∧ Below w.heap.size w wr) (fun i _ => 4 - (intOf i).toNat)
  case atStart => exact ⟨0, by omega, rfl, HY9, HZ9, HU9, hL9⟩
  case round =>
    clear HY9 HZ9 HU9 hL9
    obtain ⟨k, hk, rfl, HY, HZ, HU, hB⟩ := hrel
    by_cases hlt : k < 4
    · have hk4 : k = 0 ∨ k = 1 ∨ k = 2 ∨ k = 3 := by omega
      rcases hk4 with rfl | rfl | rfl | rfl
      · obtain ⟨x, hx⟩ : ∃ x, x = (four a).getD 0 0 := ⟨_, rfl⟩
        have h0 : wr.cell? ⟨b, o, none⟩ = some (.int .u8 x) := by rw [hx]; exact HU.out 0 (by omega)
        replace hx := Lib.hid hx
        have k0 : wr.cell? ⟨G, 12, none⟩ = some (.int .u8 0) := HY.out.cell 12
        have f0 : wr.frozen? ⟨G, 12, none⟩ = false := HY.out.frozen 12
        go_wp2_with fail
        go_roundw
        case rel =>
          refine ⟨1, by omega, rfl, Lib.hid ?_, Lib.hid (HZ.out.far (by dsimp only; omega) _), Lib.hid fun i hi => cell_farD (HU.out i hi) (by dsimp only; omega) _, hB.setCell (by dsimp only; omega) _⟩
          have := HY.out.set_ 12 x
          rw [hx.out] at this ⊢
          exact this
        case measure => simp [intOf]
      · obtain ⟨x, hx⟩ : ∃ x, x = (four a).getD 1 0 := ⟨_, rfl⟩
        have h0 : wr.cell? ⟨b, o + 1, none⟩ = some (.int .u8 x) := by rw [hx]; exact HU.out 1 (by omega)
        replace hx := Lib.hid hx
        have k0 : wr.cell? ⟨G, 13, none⟩ = some (.int .u8 0) := HY.out.cell 13
        have f0 : wr.frozen? ⟨G, 13, none⟩ = false := HY.out.frozen 13
        go_wp2_with fail
        go_roundw
        case rel =>
          refine ⟨2, by omega, rfl, Lib.hid ?_, Lib.hid (HZ.out.far (by dsimp only; omega) _), Lib.hid fun i hi => cell_farD (HU.out i hi) (by dsimp only; omega) _, hB.setCell (by dsimp only; omega) _⟩
          have := HY.out.set_ 13 x
          rw [hx.out] at this ⊢
          exact this
        case measure => simp [intOf]
      · obtain ⟨x, hx⟩ : ∃ x, x = (four a).getD 2 0 := ⟨_, rfl⟩
        have h0 : wr.cell? ⟨b, o + 2, none⟩ = some (.int .u8 x) := by rw [hx]; exact HU.out 2 (by omega)
        replace hx := Lib.hid hx
        have k0 : wr.cell? ⟨G, 14, none⟩ = some (.int .u8 0) := HY.out.cell 14
        have f0 : wr.frozen? ⟨G, 14, none⟩ = false := HY.out.frozen 14
        go_wp2_with fail
        go_roundw
        case rel =>
          refine ⟨3, by omega, rfl, Lib.hid ?_, Lib.hid (HZ.out.far (by dsimp only; omega) _), Lib.hid fun i hi => cell_farD (HU.out i hi) (by dsimp only; omega) _, hB.setCell (by dsimp only; omega) _⟩
          have := HY.out.set_ 14 x
          rw [hx.out] at this ⊢
          exact this
        case measure => simp [intOf]
      · obtain ⟨x, hx⟩ : ∃ x, x = (four a).getD 3 0 := ⟨_, rfl⟩
        have h0 : wr.cell? ⟨b, o + 3, none⟩ = some (.int .u8 x) := by rw [hx]; exact HU.out 3 (by omega)
        replace hx := Lib.hid hx
        have k0 : wr.cell? ⟨G, 15, none⟩ = some (.int .u8 0) := HY.out.cell 15
        have f0 : wr.frozen? ⟨G, 15, none⟩ = false := HY.out.frozen 15
        go_wp2_with fail
        go_roundw
        case rel =>
          refine ⟨4, by omega, rfl, Lib.hid ?_, Lib.hid (HZ.out.far (by dsimp only; omega) _), Lib.hid fun i hi => cell_farD (HU.out i hi) (by dsimp only; omega) _, hB.setCell (by dsimp only; omega) _⟩
          have := HY.out.set_ 15 x
          rw [hx.out] at this ⊢
          exact this
        case measure => simp [intOf]
    · obtain rfl : k = 4 := by omega
      have HY2 : Hid (Blk wr 26 G (laidD n d a)) := HY
      go_wp2_with (first | (with_reducible refine wpList_load_addr rfl (.tmp 4) rfl G rfl 26 (laidD n d a) HY2.out rfl ?_) | (with_reducible refine wpList_store_addr rfl (.tmp 2) (.tmp 59) rfl (w.heap.size + 1) rfl (laidD n d a) rfl _ zero16 HZ.out rfl rfl ?_; intro w10 HG hb8 hz8; refine Hid.out ?_))
      refine Lib.hid ?_
      replace HG := Lib.hid HG
      go_wp2_with fail
      exact ret_addrD Tryd.results7 rfl rfl HG.out rfl ⟨rfl, Below.trans hB (hb8.mono (by omega))⟩ rfl

/-- what the document's Make tells -/
theorem rsidmake_any (n d a : Int) (w : World) (ha : 0 ≤ a ∧ a < 4294967296) :
    Calls Tryd.prog 7 #[sidV n d a] w fun e w' => e = .returned (.tuple #[addrV (makeD n d a), .int .i64 (errD n d)]) ∧ Below w.heap.size w w' := by
  cases h : canD n d
  · have e1 : makeD n d a = zero16 := by unfold makeD; rw [h]; rfl
    have e2 : errD n d = 2 := by unfold errD; rw [h]; rfl
    rw [e1, e2]
    exact rmake_noD n d a w h
  · have e1 : makeD n d a = laidD n d a := by unfold makeD; rw [h]; rfl
    have e2 : errD n d = 0 := by unfold errD; rw [h]; rfl
    rw [e1, e2]
    exact rmake_yesD n d a w h ha

set_option maxRecDepth 100000 in
set_option maxHeartbeats 1600000 in
theorem rsidnode_any (n : Int) (w : World) :
    Calls Tryd.prog 9 #[.int .i64 n] w fun e w' => e = .returned (addrV (makeD n 0 0)) ∧ Below w.heap.size w w' := by
  have HL := Lib.hid (makeD_len n 0 0)
  have HM := Lib.hid (fun w => rsidmake_any n 0 0 w (by omega))
  unfold sidV at HM
  go_enter Tryd.func9, Tryd.ntmps9
  go_wp2_with ((with_reducible refine wpList_alloc_v rfl 26 rfl (cellsB zero16) addr_zeroD ?_); intro w1 HZ0 hL hz1; refine Hid.out ?_)
  refine Lib.hid ?_
  have HZ : Hid (Blk w1 26 w.heap.size zero16) := Lib.hid HZ0
  clear HZ0 hz1
  go_wp2_with fail
  refine (HM.out w1).mono ?_
  rintro e w2 ⟨rfl, hl⟩
  obtain ⟨s, hs⟩ : ∃ s, s = makeD n 0 0 := ⟨_, rfl⟩
  rw [← hs] at HL ⊢
  replace hs := Lib.hid hs
  generalize errD n 0 = er at *
  replace hL := hL.trans hl
  replace HZ := Lib.hid (HZ.out.below hl HZ.out.lt)
  clear hl HM
  unfold addrV
  go_wp2_with ((with_reducible refine wpList_alloc_v rfl 26 rfl (cellsB zero16) addr_zeroD ?_); intro w3 HY0 hl hz1; refine Hid.out ?_)
  refine Lib.hid ?_
  have hlt := HZ.out.lt
  have HY : Hid (Blk w3 26 w2.heap.size zero16) := Lib.hid HY0
  replace HZ := Lib.hid (HZ.out.below hl HZ.out.lt)
  go_wp2_with ((with_reducible refine wpList_store_addr rfl (.tmp 3) (.tmp 9) rfl w2.heap.size rfl s rfl _ zero16 HY.out rfl HL.out ?_); intro w4 HG hb4 hz4; refine Hid.out ?_)
  refine Lib.hid ?_
  replace HG := Lib.hid HG
  replace HZ := Lib.hid (HZ.out.below hb4 hlt)
  replace hl : Low w2 w4 := Below.trans hl hb4
  replace hL := hL.trans hl
  clear HY HY0 hz1 hz4 hb4 hl
  go_wp2_with (first | (with_reducible refine wpList_load_addr rfl (.tmp 3) rfl w2.heap.size rfl _ s HG.out HL.out ?_) | ((with_reducible refine wpList_store_addr rfl (.tmp 2) (.tmp 11) rfl w.heap.size rfl s rfl _ zero16 HZ.out rfl HL.out ?_); intro w5 HR hb5 hz5; refine Hid.out ?_))
  refine Lib.hid ?_
  replace HR := Lib.hid HR
  go_wp2_with fail
  exact ret_addr1D Tryd.results9 rfl HR.out HL.out ⟨by rw [hs.out], Below.trans hL hb5⟩ rfl
end Go.Proofs.YtjlanbfkpaagdaaDoor
