/- What tcp.Put answers: the bytes of a segment. Condition: at most 2^47 options, and as many bytes of payload. -/
import Derived.Test.YtkbgfddicpnbmaaTcE
import Derived.Test.YtkbgfddicpnbmaaOctD
import Derived.Test.YtkbgfddicpnbmaaApp2
namespace Go.Proofs.Ytkbgfddicpnbmaa
open Go.RowKit
set_option linter.unusedVariables false

/-- the bytes ahead of the options, and all -/
def headS (x : Sb) : List Int := two x.sp ++ two x.dp ++ four x.sq ++ four x.ak ++ [(5 + ((putO x.os).length : Int) / 4) * 16, x.fl] ++ two x.wi ++ two x.su ++ two x.ur
def putS (x : Sb) : List Int := if canS x = 0 then headS x ++ putO x.os ++ x.ps else []
theorem canS_zero {x : Sb} (h : canS x = 0) : fitB x = true ∧ canO x.os = 0 ∧ (x.ps.length : Int) ≤ 65515 - ((putO x.os).length : Int) := by
  unfold canS at h
  split at h
  · rename_i h1
    split at h
    · rename_i h2
      split at h
      · omega
      · exact ⟨h1, h2, by omega⟩
    · omega
  · omega
theorem fitB_spec {x : Sb} (h : fitB x = true) : (0 ≤ x.sp ∧ x.sp ≤ 65535) ∧ (0 ≤ x.dp ∧ x.dp ≤ 65535) ∧ (0 ≤ x.wi ∧ x.wi ≤ 65535) ∧ (0 ≤ x.su ∧ x.su ≤ 65535) ∧ (0 ≤ x.ur ∧ x.ur ≤ 65535) ∧ (0 ≤ x.fl ∧ x.fl ≤ 255) := of_decide_eq_true h
theorem wpList_append_full {P : Program} {w : World} {ops : Array Oper} {rest : List Oper} {o : Oper} {a : Act} {Q : Exit → Act → World → Prop} (hgd : o.guard = none) (s x : Operand) (t : TypeId)
    (ho : o.op = .call { callee := .builtin .append, args := #[s, x], argTypes := #[t, t] })
    (e : TypeId) (i : TypeInfo) (ht : P.underlying t = some (.slice e)) (hi : P.info? e = some i) (hz : i.zero = some (.int .u8 0)) (hsize : i.size = 1) (hby : i.bytes = 1)
    (b0 o0 n c0 : Nat) (xs : List Int) (hs : a.eval s = .slice (some ⟨b0, o0, none⟩) n c0) (hx0 : Bs w w.heap.size (some ⟨b0, o0, none⟩) n xs) (hc0 : c0 = n)
    (A : Option Addr) (m c : Nat) (ys : List Int) (hx : a.eval x = .slice A m c) (hy : Bs w w.heap.size A m ys) (hn : n + m ≤ 140737488355328)
    (h : ∀ A' c' w', Bs w' w'.heap.size A' (n + m) (xs ++ ys) → n + m ≤ c' → c' ≤ 9223372036854775807 → Low w w' → wpList P ops Q rest (a.put o.dst (.slice A' (n + m) c')) w') : wpList P ops Q (o :: rest) a w :=
  wpList_plain hgd fun _ hK => wp_append_full s x t ho e i ht hi hz hsize hby b0 o0 n c0 xs hs hx0 hc0 A m c ys hx hy hn fun A' c' w' h1 h2 h3 h4 => hK _ _ (h A' c' w' h1 h2 h3 h4)
theorem BlkV.drew {w : World} {t : TypeId} {g : Nat} {vs : List Value} (h : BlkV w t g vs) : BlkV w.drew t g vs := h

theorem GivesBE.of {w w' : World} {ys zs : List Int} {x y : Int} {A : Option Addr} {n c : Nat} (hy : ys = zs) (hx : x = y) (hb : Bs w' w'.heap.size A n zs) (h1 : n ≤ c) (h2 : c ≤ 9223372036854775807) (hB : Below w.heap.size w w') :
    GivesBE w ys x (.returned (.tuple #[.slice A n c, .int .i64 y])) w' := by
  subst hy hx
  obtain rfl := hb.len
  exact ⟨A, c, rfl, hb, ⟨h1, h2⟩, hB⟩

set_option maxRecDepth 100000 in
set_option maxHeartbeats 1600000 in
theorem tcput_any (t : Sg) (w : World) (ht : t.ok w w.heap.size) : Calls Try.prog 10 #[segV t] w (GivesBE w (putS t.v) (canS t.v)) := by
  unfold segV
  obtain ⟨i0, hi, hz0, hz1, hz2⟩ := info_parts info5
  have HT := Lib.hid ht
  clear ht
  go_enter Try.func10, Try.ntmps10
  go_wp2_with ((with_reducible refine wpList_box_seg rfl (.tmp 0) rfl t rfl ?_); intro w1 HB hL hz; refine Hid.out ?_)
  refine Lib.hid ?_
  replace HB := Lib.hid HB
  clear hz
  go_wp2_with (with_reducible refine wpList_load_seg rfl (.tmp 1) rfl w.heap.size rfl t HB.out ?_)
  refine (tccan_any t w1 (HT.out.low hL)).mono ?_
  rintro e w2 ⟨rfl, hB2⟩
  replace HB := Lib.hid (HB.out.below hB2 HB.out.lt)
  replace hL := Low.trans hL hB2
  clear hB2
  by_cases hcan : canS t.v = 0
  · have HP := Lib.hid (show putS t.v = headS t.v ++ putO t.v.os ++ t.v.ps by unfold putS; rw [if_pos hcan])
    obtain ⟨hf, hco, hlen⟩ := canS_zero hcan
    obtain ⟨b1, b2, b3, b4, b5, b6⟩ := fitB_spec hf
    have HCAN := Lib.hid hcan
    rw [hcan]
    obtain ⟨-, hq40, hq4⟩ := parse_put hco
    replace hq40 : (putO (t.os.map Od.v)).length ≤ 40 := hq40
    replace hq4 : (putO (t.os.map Od.v)).length % 4 = 0 := hq4
    replace hlen : (t.ps.length : Int) ≤ 65515 - ((putO (t.os.map Od.v)).length : Int) := hlen
    rw [HT.out.ps.len] at hlen
    replace b6 : 0 ≤ t.fl ∧ t.fl ≤ 255 := b6
    have HCO := Lib.hid (show canO (t.os.map Od.v) = 0 from hco)
    replace HP : Hid (putS t.v = headS t.v ++ putO (t.os.map Od.v) ++ t.ps) := HP
    have HH := Lib.hid (show headS t.v = two t.sp ++ two t.dp ++ four t.sq ++ four t.ak ++ [(5 + ((putO (t.os.map Od.v)).length : Int) / 4) * 16, t.fl] ++ two t.wi ++ two t.su ++ two t.ur from rfl)
    clear hcan hf hco b1 b2 b3 b4 b5
    obtain ⟨c0, c1, c2, c3, c4, c5, c6, c7, c8, c9⟩ := BlkS.cells HB.out
    clear c0 c1 c2 c3 c4 c5 c6 c7 c9
    go_wp2_with fail
    refine (tput_any t.oA t.om t.oc t.os w2 (by have := HT.out.om; omega) (HT.out.low hL).os).mono ?_
    rintro e w3 ⟨A3, r3, rfl, hb3, -, hB3⟩
    rw [HCO.out]
    generalize putO (t.os.map Od.v) = ys at *
    have hys := hb3.len
    obtain ⟨q, hq⟩ : ∃ q, q = ys.length := ⟨_, rfl⟩
    rw [← hq] at hb3 hq40 hq4 hlen HH ⊢
    have HO := Lib.hid hb3
    replace HB := Lib.hid (HB.out.below hB3 HB.out.lt)
    replace hL := Low.trans hL hB3
    clear hb3 hB3 c8 hys hq
    go_wp2_with fail
    refine wp_region_plan (.rd 0 (.rd 1 (.rd 3 (.rd 4 (.act 2 (.act 5 (.rd 6 .done))))))) (by kernel_rfl) (by kernel_rfl) (fun _ _ d _ _ h => by cases d <;> exact h) (by kernel_rfl) ?_
    replace hL := hL.trans (Below.drew (Below.refl w3.heap.size w3))
    replace HO : Hid (Bs w3.drew w3.drew.heap.size A3 q ys) := Lib.hid HO.out.drew
    replace HB := Lib.hid HB.out.drew
    generalize w3.drew = w4 at *
    obtain ⟨c0, c1, c2, c3, c4, c5, c6, c7, c8, c9⟩ := BlkS.cells HB.out
    have hlt := HB.out.lt
    iterate 4 (refine walkP_read (v := _) rfl (by rfl) (by intro y hy; have e0 := (hy.cell (p := ⟨w.heap.size, 0, none⟩) hlt).trans c0; have e1 := (hy.cell (p := ⟨w.heap.size, 1, none⟩) hlt).trans c1; go_simp; try rfl) ?_; simp only [Act.put, List.setIfInBounds_toArray, List.set_cons_zero, List.set_cons_succ])
    clear c0 c1 c2 c3 c4 c5 c6 c7 c8 c9
    refine walkP_act rfl (by rfl) (fun K hK => ?_)
    go_simp
    refine (put16_any none 0 0 t.sp [] w4 (by omega) HT.out.sp (Bs.nil _ _ _)).mono ?_
    rintro e w5 ⟨v, rfl, g5, rfl, hg5, hk5, hl5, ha5, hl⟩
    go_simp
    refine hK _ _ hl ?_
    clear hK K
    have hb5 : Bs w5 w5.heap.size (some ⟨g5, 0, none⟩) 2 (two t.sp) := hk5.bs ha5 hk5.lt hl5
    replace hL := hL.trans hl
    replace HO := Lib.hid (HO.out.below' hl hl.size)
    replace HB := Lib.hid (HB.out.below hl HB.out.lt)
    clear hl hk5 ha5 hl5 hg5
    refine walkP_act rfl (by rfl) (fun K hK => ?_)
    go_simp
    refine (put16_any (some ⟨g5, 0, none⟩) 2 2 t.dp (two t.sp) w5 (by omega) HT.out.dp hb5).mono ?_
    rintro e w6 ⟨v, rfl, g6, rfl, hg6, hk6, hl6, ha6, hl⟩
    go_simp
    refine hK _ _ hl ?_
    clear hK K
    have HB6 : Hid (Bs w6 w6.heap.size (some ⟨g6, 0, none⟩) 4 (two t.sp ++ two t.dp)) := Lib.hid (hk6.bs ha6 hk6.lt hl6)
    replace hL := hL.trans hl
    replace HO := Lib.hid (HO.out.below' hl hl.size)
    replace HB := Lib.hid (HB.out.below hl HB.out.lt)
    clear hl hk6 ha6 hl6 hg6 hb5
    iterate 1 (refine walkP_read (v := _) rfl (by rfl) (by intro y hy; go_simp; try rfl) ?_; simp only [Act.put, List.setIfInBounds_toArray, List.set_cons_zero, List.set_cons_succ])
    unfold walkP
    generalize two t.sp ++ two t.dp = z4 at *
    go_wp2_with fail
    refine wp_region_plan (.rd 0 (.rd 1 (.rd 2 (.rd 4 (.rd 5 (.act 3 (.act 6 (.rd 7 .done)))))))) (by kernel_rfl) (by kernel_rfl) (fun _ _ d _ _ h => by cases d <;> exact h) (by kernel_rfl) ?_
    replace hL := hL.trans (Below.drew (Below.refl w6.heap.size w6))
    replace HO : Hid (Bs w6.drew w6.drew.heap.size A3 q ys) := Lib.hid HO.out.drew
    replace HB6 : Hid (Bs w6.drew w6.drew.heap.size (some ⟨g6, 0, none⟩) 4 z4) := Lib.hid HB6.out.drew
    replace HB := Lib.hid HB.out.drew
    generalize w6.drew = w7 at *
    obtain ⟨c0, c1, c2, c3, c4, c5, c6, c7, c8, c9⟩ := BlkS.cells HB.out
    replace hlt := HB.out.lt
    iterate 5 (refine walkP_read (v := _) rfl (by rfl) (by intro y hy; have e0 := (hy.cell (p := ⟨w.heap.size, 2, none⟩) hlt).trans c2; have e1 := (hy.cell (p := ⟨w.heap.size, 3, none⟩) hlt).trans c3; go_simp; try rfl) ?_; simp only [Act.put, List.setIfInBounds_toArray, List.set_cons_zero, List.set_cons_succ])
    clear c0 c1 c2 c3 c4 c5 c6 c7 c8 c9
    refine walkP_act rfl (by rfl) (fun K hK => ?_)
    go_simp
    refine (put32_any (some ⟨g6, 0, none⟩) 4 4 t.sq z4 w7 (by omega) HT.out.sq HB6.out).mono ?_
    rintro e w8 ⟨v, rfl, g8, rfl, hg8, hk8, hl8, ha8, hl⟩
    go_simp
    refine hK _ _ hl ?_
    clear hK K
    have hb8 : Bs w8 w8.heap.size (some ⟨g8, 0, none⟩) 8 (z4 ++ four t.sq) := hk8.bs ha8 hk8.lt hl8
    replace hL := hL.trans hl
    replace HO := Lib.hid (HO.out.below' hl hl.size)
    replace HB := Lib.hid (HB.out.below hl HB.out.lt)
    clear hl hk8 ha8 hl8 hg8 HB6
    generalize z4 ++ four t.sq = z8 at *
    refine walkP_act rfl (by rfl) (fun K hK => ?_)
    go_simp
    refine (put32_any (some ⟨g8, 0, none⟩) 8 8 t.ak z8 w8 (by omega) HT.out.ak hb8).mono ?_
    rintro e w9 ⟨v, rfl, g9, rfl, hg9, hk9, hl9, ha9, hl⟩
    go_simp
    refine hK _ _ hl ?_
    clear hK K
    have hb9 : Bs w9 w9.heap.size (some ⟨g9, 0, none⟩) 12 (z8 ++ four t.ak) := hk9.bs ha9 hk9.lt hl9
    replace hL := hL.trans hl
    replace HO := Lib.hid (HO.out.below' hl hl.size)
    replace HB := Lib.hid (HB.out.below hl HB.out.lt)
    clear hl hk9 ha9 hl9 hg9 hb8
    generalize z8 ++ four t.ak = z12 at *
    iterate 1 (refine walkP_read (v := _) rfl (by rfl) (by intro y hy; go_simp; try rfl) ?_; simp only [Act.put, List.setIfInBounds_toArray, List.set_cons_zero, List.set_cons_succ])
    unfold walkP
    obtain ⟨c0, c1, c2, c3, c4, c5, c6, c7, c8, c9⟩ := BlkS.cells HB.out
    clear c0 c1 c2 c3 c5 c6 c7 c8 c9
    have HW := Lib.hid (show (5 + (q : Int) / 4) * 16 = (20 + (q : Int)) / 4 * 16 by omega)
    rw [HW.out] at HH
    have hwr : 0 ≤ (20 + (q : Int)) / 4 * 16 ∧ (20 + (q : Int)) / 4 * 16 < 256 := by omega
    have hla := Low.alloc w9 (.cells #[.int .u8 ((20 + (q : Int)) / 4 * 16), .int .u8 t.fl] 5)
    have hka : Blk (w9.alloc (.cells #[.int .u8 ((20 + (q : Int)) / 4 * 16), .int .u8 t.fl] 5)) 5 w9.heap.size [(20 + (q : Int)) / 4 * 16, t.fl] := Blk.new w9 5 [(20 + (q : Int)) / 4 * 16, t.fl]
    have HBA := Lib.hid (hka.bs (.cons hwr.1 hwr.2 (.cons b6.1 (by omega) .nil)) hka.lt rfl)
    have HB9 := Lib.hid (hb9.below' hla hla.size)
    replace hL := hL.trans hla
    replace HO := Lib.hid (HO.out.below' hla hla.size)
    replace HB := Lib.hid (HB.out.below hla HB.out.lt)
    clear hb9 hla hka
    go_wp2_with (at_builtin; refine wpList_append_full rfl (.tmp 37) (.tmp 44) _ rfl 5 i0 Try.underlying24 hi hz0 hz1 hz2 g9 0 12 12 z12 rfl HB9.out rfl (some ⟨w9.heap.size, 0, none⟩) 2 2 _ rfl HBA.out (by omega) ?_; intro AA ra wa hba hca hca2 hla; refine Hid.out ?_)
    refine Lib.hid ?_
    replace hL := hL.trans hla
    replace HO := Lib.hid (HO.out.below' hla hla.size)
    replace HB := Lib.hid (HB.out.below hla HB.out.lt)
    replace hba : Bs wa wa.heap.size AA 14 (z12 ++ [(20 + (q : Int)) / 4 * 16, t.fl]) := hba
    have HBA2 := Lib.hid hba
    clear hba HB9 HBA c4 hla
    generalize z12 ++ [(20 + (q : Int)) / 4 * 16, t.fl] = z14 at *
    go_wp2_with fail
    refine wp_region_plan (.rd 0 (.rd 1 (.rd 2 (.rd 4 (.rd 5 (.rd 7 (.rd 8 (.act 3 (.act 6 (.act 9 (.rd 10 .done))))))))))) (by kernel_rfl) (by kernel_rfl) (fun _ _ d _ _ h => by cases d <;> exact h) (by kernel_rfl) ?_
    replace hL := hL.trans (Below.drew (Below.refl wa.heap.size wa))
    replace HO : Hid (Bs wa.drew wa.drew.heap.size A3 q ys) := Lib.hid HO.out.drew
    replace HBA2 : Hid (Bs wa.drew wa.drew.heap.size AA 14 z14) := Lib.hid HBA2.out.drew
    replace HB := Lib.hid HB.out.drew
    generalize wa.drew = wb at *
    obtain ⟨c0, c1, c2, c3, c4, c5, c6, c7, c8, c9⟩ := BlkS.cells HB.out
    replace hlt := HB.out.lt
    iterate 7 (refine walkP_read (v := _) rfl (by rfl) (by intro y hy; have e0 := (hy.cell (p := ⟨w.heap.size, 5, none⟩) hlt).trans c5; have e1 := (hy.cell (p := ⟨w.heap.size, 6, none⟩) hlt).trans c6; have e2 := (hy.cell (p := ⟨w.heap.size, 7, none⟩) hlt).trans c7; go_simp; try rfl) ?_; simp only [Act.put, List.setIfInBounds_toArray, List.set_cons_zero, List.set_cons_succ])
    clear c0 c1 c2 c3 c4 c5 c6 c7 c8 c9
    refine walkP_act rfl (by rfl) (fun K hK => ?_)
    go_simp
    refine (put16_any AA 14 ra t.wi z14 wb (by omega) HT.out.wi HBA2.out).mono ?_
    rintro e wc ⟨v, rfl, gc, rfl, hgc, hkc, hlc, hac, hl⟩
    go_simp
    refine hK _ _ hl ?_
    clear hK K
    have hbc : Bs wc wc.heap.size (some ⟨gc, 0, none⟩) 16 (z14 ++ two t.wi) := hkc.bs hac hkc.lt hlc
    replace hL := hL.trans hl
    replace HO := Lib.hid (HO.out.below' hl hl.size)
    replace HB := Lib.hid (HB.out.below hl HB.out.lt)
    clear hl hkc hac hlc hgc HBA2
    generalize z14 ++ two t.wi = z16 at *
    refine walkP_act rfl (by rfl) (fun K hK => ?_)
    go_simp
    refine (put16_any (some ⟨gc, 0, none⟩) 16 16 t.su z16 wc (by omega) HT.out.su hbc).mono ?_
    rintro e wd ⟨v, rfl, gd, rfl, hgd, hkd, hld, had, hl⟩
    go_simp
    refine hK _ _ hl ?_
    clear hK K
    have hbd : Bs wd wd.heap.size (some ⟨gd, 0, none⟩) 18 (z16 ++ two t.su) := hkd.bs had hkd.lt hld
    replace hL := hL.trans hl
    replace HO := Lib.hid (HO.out.below' hl hl.size)
    replace HB := Lib.hid (HB.out.below hl HB.out.lt)
    clear hl hkd had hld hgd hbc
    generalize z16 ++ two t.su = z18 at *
    refine walkP_act rfl (by rfl) (fun K hK => ?_)
    go_simp
    refine (put16_any (some ⟨gd, 0, none⟩) 18 18 t.ur z18 wd (by omega) HT.out.ur hbd).mono ?_
    rintro e we ⟨v, rfl, ge, rfl, hge, hke, hle, hae, hl⟩
    go_simp
    refine hK _ _ hl ?_
    clear hK K
    have hbe : Bs we we.heap.size (some ⟨ge, 0, none⟩) 20 (z18 ++ two t.ur) := hke.bs hae hke.lt hle
    replace hL := hL.trans hl
    replace HO := Lib.hid (HO.out.below' hl hl.size)
    replace HB := Lib.hid (HB.out.below hl HB.out.lt)
    clear hl hke hae hle hge hbd
    rw [← HH.out] at hbe
    generalize headS t.v = hd at *
    iterate 1 (refine walkP_read (v := _) rfl (by rfl) (by intro y hy; go_simp; try rfl) ?_; simp only [Act.put, List.setIfInBounds_toArray, List.set_cons_zero, List.set_cons_succ])
    unfold walkP
    obtain ⟨c0, c1, c2, c3, c4, c5, c6, c7, c8, c9⟩ := BlkS.cells HB.out
    clear c0 c1 c2 c3 c4 c5 c6 c7 c8
    have hlf := Low.alloc we (.cells #[.slice (some ⟨ge, 0, none⟩) 20 20, .slice A3 q r3, .slice t.pA t.pm t.pc] 24)
    have HPS := Lib.hid ((HT.out.low hL).ps.below' hlf hlf.size)
    have HBE := Lib.hid (hbe.below' hlf hlf.size)
    have HNR := Lib.hid (heap_alloc_new we (.cells #[.slice (some ⟨ge, 0, none⟩) 20 20, .slice A3 q r3, .slice t.pA t.pm t.pc] 24))
    replace hL := hL.trans hlf
    replace HO := Lib.hid (HO.out.below' hlf hlf.size)
    clear HB hbe hlf
    go_wp2_with fail
    refine (join3 (some ⟨ge, 0, none⟩) A3 t.pA 20 20 q r3 t.pm t.pc we.heap.size _ hd ys t.ps _ (by omega) HNR.out HBE.out HO.out HPS.out).mono ?_
    rintro e wf ⟨v, rfl, gf, rfl, hgf, hkf, hlf, haf, hl⟩
    replace hL := hL.trans hl
    have hbf := hkf.bs haf hkf.lt hlf
    clear hl hkf haf hlf hgf HO HPS HBE HNR c9
    go_wp2_with fail
    go_ret2
    exact GivesBE.of HP.out HCAN.out hbf (Nat.le_refl _) (by omega) hL
  · have HP := Lib.hid (show putS t.v = [] by unfold putS; rw [if_neg hcan])
    obtain ⟨x, hx⟩ : ∃ x, x = canS t.v := ⟨_, rfl⟩
    rw [← hx] at hcan ⊢
    have HX := Lib.hid hx
    clear hx
    go_wp2_with fail
    go_ret2
    exact GivesBE.of HP.out HX.out.symm (Bs.nil _ _ _) (Nat.le_refl _) (by simp) hL
end Go.Proofs.Ytkbgfddicpnbmaa
