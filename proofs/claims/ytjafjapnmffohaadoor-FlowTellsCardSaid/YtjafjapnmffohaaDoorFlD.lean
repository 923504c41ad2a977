/- What the document's own Bytes of flows tells. Conditions: addresses are 16 bytes, ports are ints. -/
import Derived.Test.YtjafjapnmffohaaDoorFlC
set_option maxRecDepth 100000
namespace Go.Proofs.YtjafjapnmffohaaDoor
open Go.RowKit
set_option linter.unusedVariables false

/-- bytes of the call's own handed back -/
def GivesFl (w : World) (ys : List Int) (e : Ending) (w' : World) : Prop := ∃ A c, e = .returned (.slice A ys.length c) ∧ OwnB 5 w' w.heap.size A ys.length c ys ∧ Below w.heap.size w w'
theorem take_oneF {l : List Int} {k : Nat} (h : k < l.length) : l.take (k + 1) = l.take k ++ [l.getD k 0] := by
  rw [List.take_succ_eq_append_getElem h]
  simp [List.getD, h]
theorem fwC_at_s {f : Fw} {k : Nat} (hs : f.s.length = 16) (h : k < 16) : (fwC f)[k]? = some (.int .u8 (f.s.getD k 0)) := by
  unfold fwC
  rw [List.getElem?_append_left (by rw [cellsB_length]; omega), cellsB_get (by omega)]
theorem fwC_at_d {f : Fw} {k : Nat} (hs : f.s.length = 16) (hd : f.d.length = 16) (h : k < 16) : (fwC f)[17 + k]? = some (.int .u8 (f.d.getD k 0)) := by
  unfold fwC
  rw [List.getElem?_append_right (by rw [cellsB_length]; omega), cellsB_length, hs, show 17 + k - 16 = k + 1 by omega, List.getElem?_cons_succ, List.getElem?_append_left (by rw [cellsB_length]; omega), cellsB_get (by omega)]

theorem OwnB.lowerF {t : TypeId} {w : World} {base base' n c : Nat} {A : Option Addr} {ys : List Int} (h : OwnB t w base A n c ys) (hb : base' ≤ base) : OwnB t w base' A n c ys :=
  ⟨⟨h.1.1, h.1.2.imp id fun ⟨g, cap, cur, e, hbg, r⟩ => ⟨g, cap, cur, e, Nat.le_trans hb hbg, r⟩⟩, h.2⟩
theorem BlkV.grownF {w w' : World} {t : TypeId} {g : Nat} {vs : List Value} {row : Option Nat} (h : BlkV w t g vs) (hg : w.grownBy w' row) (hr : ∀ j, row = some j → g ≠ j) : BlkV w' t g vs :=
  (hg.block g h.lt (fun e => hr g e.symm rfl)).trans h

set_option maxRecDepth 100000 in
set_option maxHeartbeats 3200000 in
theorem rfbytes_any (f : Fw) (w : World) (hf : f.ok) :
    Calls Tryd.prog 7 #[fwV f] w (GivesFl w (bytesF f)) := by
  unfold fwV
  obtain ⟨i0, hi, hz0, hz1, hz2⟩ := info_parts info5
  have HI := Lib.hid hi
  have HZ0 := Lib.hid hz0
  have HZ1 := Lib.hid hz1
  have HZ2 := Lib.hid hz2
  have HF := Lib.hid hf
  have HBL := Lib.hid (bytesF_len hf)
  have HBE := Lib.hid (show bytesF f = f.s ++ two f.sp ++ f.d ++ two f.dp from rfl)
  clear hi hz0 hz1 hz2 hf
  go_enter Tryd.func7, Tryd.ntmps7
  go_wp2_with ((with_reducible refine wpList_box_fw rfl (.tmp 0) rfl f rfl ?_); intro w1 HB hL hz1; refine Hid.out ?_)
  refine Lib.hid ?_
  replace HB := Lib.hid HB
  go_wp2_with fail
  go_loopw [3, 4] (fun v3 v4 wr => ∃ (k : Nat) (A : Option Addr) (c : Nat), k ≤ 16 ∧ v4 = .int .i64 k ∧ v3 = .slice A k c ∧ Hid (OwnB 5 wr (w.heap.size + 1) A k c (f.s.take k)) ∧ Hid (BlkF wr w.heap.size f) ∧ Hid (w.heap.size + 1 ≤ wr.heap.size) ∧ Below w.heap.size w wr) (fun _ v4 _ => 16 - (intOf v4).toNat)
  case atStart => exact ⟨0, none, 0, by omega, rfl, rfl, Lib.hid (OwnB.none_ _ _ _), HB, Lib.hid (by omega), hL⟩
  case round =>
    clear HB hL hz1
    obtain ⟨k, A, c, hk, rfl, rfl, HO, HB, HSZ, hL⟩ := hrel
    by_cases hlt : k < 16
    · have c1 := (BlkV.cell HB.out k).trans (fwC_at_s HF.out.s hlt)
      have va := HF.out.vs.getD k
      have HT := Lib.hid (take_oneF (l := f.s) (k := k) (by rw [HF.out.s]; exact hlt))
      obtain ⟨x, hx⟩ : ∃ x, x = f.s.getD k 0 := ⟨_, rfl⟩
      rw [← hx] at c1 va HT
      clear hx
      have hlA := Low.alloc wr (.cells #[.int .u8 x] 5)
      have hsA : (wr.alloc (.cells #[.int .u8 x] 5)).heap.size = wr.heap.size + 1 := by simp
      have hkA : Blk (wr.alloc (.cells #[.int .u8 x] 5)) 5 wr.heap.size [x] := Blk.new wr 5 [x]
      have hbA := hkA.bs (n := 1) (.cons va.1 va.2 .nil) hkA.lt rfl
      have hO3 := HO.out.below hlA
      have hB3 := hL.trans (hlA.mono hL.size)
      have HB3 : Hid (BlkF (wr.alloc (.cells #[.int .u8 x] 5)) w.heap.size f) := Lib.hid (HB.out.below hlA HB.out.lt)
      have hz := HSZ.out
      clear hkA hlA
      go_wp2_with (at_builtin; refine wpList_append_bs rfl (.tmp 10) (.tmp 15) _ rfl (w.heap.size + 1) 5 i0 Tryd.underlying26 HI.out HZ0.out HZ1.out HZ2.out _ k c (f.s.take k) rfl hO3 _ 1 _ _ [x] rfl hbA (by omega) (by omega) ?_; intro A2 c2 w2 hown hgr hob)
      have hL2 : Below w.heap.size w w2 := hB3.grown hgr (by omega) (fun j hj => by have := (hO3.lt j hj).1; omega)
      have HB2 : Hid (BlkF w2 w.heap.size f) := Lib.hid (BlkV.grownF HB3.out hgr (fun j hj => by have := (hO3.lt j hj).1; omega))
      have HO2 : Hid (OwnB 5 w2 (w.heap.size + 1) A2 (k + 1) c2 (f.s.take (k + 1))) := Lib.hid (by rw [HT.out]; exact hown)
      have HSZ2 : Hid (w.heap.size + 1 ≤ w2.heap.size) := Lib.hid (by have := HB2.out.lt; omega)
      clear hown hgr hob hO3 hB3 HB3 hbA hsA
      go_roundw
      case rel =>
        first
        | exact ⟨k + 1, A2, c2, by omega, by go_num, rfl, HO2, HB2, HSZ2, hL2⟩
        | ((repeat apply Exists.intro); refine ⟨?_, rfl⟩; exact ⟨k + 1, A2, c2, by omega, by go_num, rfl, HO2, HB2, HSZ2, hL2⟩)
      case measure => simp [intOf]; omega
    · obtain rfl : k = 16 := by omega
      have hO := HO.out
      rw [List.take_of_length_le (by rw [HF.out.s]; omega)] at hO
      have c16 := BlkF.sp HB.out HF.out.s
      have hz := HSZ.out
      go_wp2_with fail
      refine (rtwo_any f.sp wr HF.out.sp).mono ?_
      rintro e w2 ⟨v, rfl, g5, rfl, hg5, hk5, hl5, ha5, hl⟩
      have hl2 : Low wr w2 := hl
      have hb5 := hk5.bs (n := 2) ha5 hk5.lt hl5
      have hO2 := hO.below hl2
      have HB2 : Hid (BlkF w2 w.heap.size f) := Lib.hid (HB.out.below hl2 HB.out.lt)
      have hL2 := hL.trans (hl2.mono hL.size)
      have hs2 := hl2.size
      clear c16 hk5 hl hl2 HO hO HB hL
      go_wp2_with (at_builtin; refine wpList_append_bs rfl (.tmp 17) (.tmp 20) _ rfl (w.heap.size + 1) 5 i0 Tryd.underlying26 HI.out HZ0.out HZ1.out HZ2.out _ 16 c f.s rfl hO2 _ 2 _ _ (two f.sp) rfl hb5 (by omega) (by omega) ?_; intro A3 c3 w3 hown hgr hob; refine Hid.out ?_)
      refine Lib.hid ?_
      have hL3 : Below w.heap.size w w3 := hL2.grown hgr (by omega) (fun j hj => by have := (hO2.lt j hj).1; omega)
      have HB3 : Hid (BlkF w3 w.heap.size f) := Lib.hid (BlkV.grownF HB2.out hgr (fun j hj => by have := (hO2.lt j hj).1; omega))
      have HO3 := Lib.hid hown
      have hz3 : w.heap.size + 1 ≤ w3.heap.size := by have := HB3.out.lt; omega
      obtain ⟨p1, hp1⟩ : ∃ p, p = f.s ++ two f.sp := ⟨_, rfl⟩
      rw [← hp1] at HO3
      have HP1 := Lib.hid hp1
      clear hown hgr hob hO2 HB2 hL2 hb5 hs2 hg5 hl5 ha5 hp1 hz HSZ
      go_wp2_with fail
      go_loopw [3, 5] (fun v3 v5 wr => ∃ (k : Nat) (A : Option Addr) (c : Nat), k ≤ 16 ∧ v5 = .int .i64 k ∧ v3 = .slice A (18 + k) c ∧ Hid (OwnB 5 wr (w.heap.size + 1) A (18 + k) c (p1 ++ f.d.take k)) ∧ Hid (BlkF wr w.heap.size f) ∧ Hid (w.heap.size + 1 ≤ wr.heap.size) ∧ Below w.heap.size w wr) (fun _ v5 _ => 16 - (intOf v5).toNat)
      case atStart => exact ⟨0, A3, c3, by omega, rfl, rfl, Lib.hid (by rw [List.take_zero, List.append_nil]; exact HO3.out), HB3, Lib.hid hz3, hL3⟩
      case round =>
        clear HB3 hL3 HO3 hz3
        obtain ⟨k, A, c, hk, rfl, rfl, HO, HB, HSZ, hL⟩ := hrel
        by_cases hlt : k < 16
        · have c1 := (BlkV.cell HB.out (17 + k)).trans (fwC_at_d HF.out.s HF.out.d hlt)
          have va := HF.out.vd.getD k
          have HT := Lib.hid (take_oneF (l := f.d) (k := k) (by rw [HF.out.d]; exact hlt))
          obtain ⟨x, hx⟩ : ∃ x, x = f.d.getD k 0 := ⟨_, rfl⟩
          rw [← hx] at c1 va HT
          clear hx
          have hlA := Low.alloc wr (.cells #[.int .u8 x] 5)
          have hsA : (wr.alloc (.cells #[.int .u8 x] 5)).heap.size = wr.heap.size + 1 := by simp
          have hkA : Blk (wr.alloc (.cells #[.int .u8 x] 5)) 5 wr.heap.size [x] := Blk.new wr 5 [x]
          have hbA := hkA.bs (n := 1) (.cons va.1 va.2 .nil) hkA.lt rfl
          have hO3 := HO.out.below hlA
          have hB3 := hL.trans (hlA.mono hL.size)
          have HB3 : Hid (BlkF (wr.alloc (.cells #[.int .u8 x] 5)) w.heap.size f) := Lib.hid (HB.out.below hlA HB.out.lt)
          have hz := HSZ.out
          clear hkA hlA
          go_wp2_with (at_builtin; refine wpList_append_bs rfl (.tmp 26) (.tmp 31) _ rfl (w.heap.size + 1) 5 i0 Tryd.underlying26 HI.out HZ0.out HZ1.out HZ2.out _ (18 + k) c (p1 ++ f.d.take k) rfl hO3 _ 1 _ _ [x] rfl hbA (by omega) (by omega) ?_; intro A2 c2 w2 hown hgr hob)
          have hL2 : Below w.heap.size w w2 := hB3.grown hgr (by omega) (fun j hj => by have := (hO3.lt j hj).1; omega)
          have HB2 : Hid (BlkF w2 w.heap.size f) := Lib.hid (BlkV.grownF HB3.out hgr (fun j hj => by have := (hO3.lt j hj).1; omega))
          have HO2 : Hid (OwnB 5 w2 (w.heap.size + 1) A2 (18 + (k + 1)) c2 (p1 ++ f.d.take (k + 1))) := Lib.hid (by rw [HT.out, ← List.append_assoc]; exact hown)
          have HSZ2 : Hid (w.heap.size + 1 ≤ w2.heap.size) := Lib.hid (by have := HB2.out.lt; omega)
          clear hown hgr hob hO3 hB3 HB3 hbA hsA
          go_roundw
          case rel =>
            first
            | exact ⟨k + 1, A2, c2, by omega, by go_num, rfl, HO2, HB2, HSZ2, hL2⟩
            | ((repeat apply Exists.intro); refine ⟨?_, rfl⟩; exact ⟨k + 1, A2, c2, by omega, by go_num, rfl, HO2, HB2, HSZ2, hL2⟩)
          case measure => simp [intOf]; omega
        · obtain rfl : k = 16 := by omega
          have hO := HO.out
          rw [List.take_of_length_le (l := f.d) (by rw [HF.out.d]; omega)] at hO
          have c33 := BlkF.dp HB.out HF.out.s HF.out.d
          have hz := HSZ.out
          go_wp2_with fail
          refine (rtwo_any f.dp wr HF.out.dp).mono ?_
          rintro e w4 ⟨v, rfl, g5, rfl, hg5, hk5, hl5, ha5, hl⟩
          have hl2 : Low wr w4 := hl
          have hb5 := hk5.bs (n := 2) ha5 hk5.lt hl5
          have hO2 := hO.below hl2
          have hL2 := hL.trans (hl2.mono hL.size)
          have hs2 := hl2.size
          clear c33 hk5 hl hl2 HO hO HB hL
          go_wp2_with (at_builtin; refine wpList_append_bs rfl (.tmp 33) (.tmp 36) _ rfl (w.heap.size + 1) 5 i0 Tryd.underlying26 HI.out HZ0.out HZ1.out HZ2.out _ (18 + 16) c (p1 ++ f.d) rfl hO2 _ 2 _ _ (two f.dp) rfl hb5 (by omega) (by omega) ?_; intro A5 c5 w5 hown hgr hob; refine Hid.out ?_)
          refine Lib.hid ?_
          have hL5 : Below w.heap.size w w5 := hL2.grown hgr (by omega) (fun j hj => by have := (hO2.lt j hj).1; omega)
          rw [HP1.out, ← HBE.out] at hown
          have HO5 := Lib.hid hown
          clear hown hgr hob hO2 hL2 hb5
          go_wp2_with fail
          go_ret
          exact ⟨A5, c5, by rw [HBL.out]; rfl, by rw [HBL.out]; exact HO5.out.lowerF (by omega), hL5⟩
end Go.Proofs.YtjafjapnmffohaaDoor
