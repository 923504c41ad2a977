/- What the document's own route of packets tells. Conditions: the headers are those that the bytes say, at least one. -/
import Derived.Test.YtjafjapnmffohaaGreatDoorPkD
import Derived.Test.YtjafjapnmffohaaGreatDoorJSrB
import Derived.Test.YtjafjapnmffohaaGreatDoorJDt
set_option maxRecDepth 100000
namespace Go.Proofs.YtjafjapnmffohaaGreatDoor
open Go.RowKit
set_option linter.unusedVariables false

/-- the packet so far: its fixed header alone; and where it goes -/
def headQ (h : Hd) : Pq := { zeroQ with h := h }
def destQ (h : Hd) : Pq := setFin h.d (headQ h)
/-- a packet handed back, with an error -/
def GivesQ (w : World) (xs : List Int) (ps : List Pt) (h : Hd) (e : Ending) (w' : World) : Prop :=
  ∃ q : Pq, e = .returned (.tuple #[pqV q, .int .i64 (rtErr xs ps h.d)]) ∧ (q.h.s.length = 16 ∧ q.h.d.length = 16 ∧ q.f.length = 16) ∧ Below w.heap.size w w' ∧
    (rtErr xs ps h.d = 0 → q.v = ⟨h, rtIs ps, rtR xs ps, rtFin xs ps h.d, 0, zeroSb, zeroMb, []⟩ ∧ q.ok w' w'.heap.size ∧ q.r.from_ w.heap.size)
theorem Sr.from_.lessK {lo lo' : Nat} {s : Sr} (h : s.from_ lo) (hl : lo' ≤ lo) : s.from_ lo' := ⟨h.sg.less hl, h.tl.lessS hl⟩
theorem zeroSr_from (lo : Nat) : zeroSr.from_ lo := ⟨AFrom.nil _ _, OFrom.nil _ _⟩
theorem rtErr_lat {xs : List Int} {ps : List Pt} {d : List Int} (h : latB ps = true) : rtErr xs ps d = 7 := by unfold rtErr; rw [if_pos h]
theorem latB_yes {ps : List Pt} {k : Nat} (h1 : 1 ≤ k) (h2 : k < ps.length) (h : (ps.getD k zeroP).k = 43) : latB ps = true := by
  unfold latB
  rw [List.any_eq_true]
  refine ⟨ps.getD k zeroP, ?_, by rw [h]; rfl⟩
  rw [List.mem_iff_getElem?]
  refine ⟨k - 1, ?_⟩
  rw [List.getElem?_drop, show 1 + (k - 1) = k by omega]
  simp [List.getD, h2]
theorem latB_no {ps : List Pt} (h : ∀ j, 1 ≤ j → j < ps.length → (ps.getD j zeroP).k ≠ 43) : latB ps = false := by
  unfold latB
  rw [List.any_eq_false]
  intro q hq
  obtain ⟨i, hi⟩ := List.mem_iff_getElem?.1 hq
  rw [List.getElem?_drop] at hi
  have hlt : 1 + i < ps.length := (List.getElem?_eq_some_iff.1 hi).1
  have := h (1 + i) (by omega) hlt
  rw [show ps.getD (1 + i) zeroP = q by simp [List.getD, hi]] at this
  simpa using this

set_option maxRecDepth 100000 in
set_option maxHeartbeats 6400000 in
theorem rroute_any (h : Hd) (A : Option Addr) (n c : Nat) (xs : List Int) (pA : Option Addr) (pn pc : Nat) (ps : List Pt) (w : World) (hh : h.ok) (hn : n ≤ 140737488351232) (h40 : 40 ≤ n) (hc : n ≤ c) (hc2 : c ≤ 9223372036854775807) (hb : Bs w w.heap.size A n xs)
    (hp0 : 0 < pn) (hpn : pn ≤ 140737488351232) (hp : Ps w w.heap.size pA pn ps) :
    Calls Tryz.prog 17 #[pqV (headQ h), .slice A n c, .slice pA pn pc] w (GivesQ w xs ps h) := by
  unfold pqV
  have HB := Lib.hid hb
  have HP := Lib.hid hp
  have HH := Lib.hid hh
  have HS := Lib.hid hh.s
  have HD := Lib.hid hh.d
  have HPL := Lib.hid hp.len
  clear hb hp hh
  go_enter Tryz.func17, Tryz.ntmps17
  go_wp2_with (first | ((with_reducible refine wpList_box_pq rfl (.tmp 0) rfl (headQ h) rfl ?_); intro w1 HK hL hz1) | ((with_reducible refine wpList_alloc_pq pkt_ref rfl rfl ?_); intro w2 HZ hl hz2; refine Hid.out ?_))
  refine Lib.hid ?_
  rw [hz1] at HZ
  replace HK := Lib.hid (HK.below hl HK.lt)
  replace HZ := Lib.hid HZ
  replace hL := hL.trans hl
  have hlt := HK.out.lt
  clear hz1 hz2 hl
  have HDS : Hid (w2.rangeAt w.heap.size 21 (cellsB h.d)) := Lib.hid (HK.out.dst HS.out)
  go_wp2_with (first | (with_reducible refine wpList_load_at rfl (.tmp 13) rfl w.heap.size 21 rfl h.d HD.out HDS.out ?_) | ((refine wpList_store_fin rfl (.tmp 15) (.tmp 14) rfl w.heap.size rfl h.d rfl (headQ h) HK.out HS.out HD.out rfl HD.out ?_); intro w3 HK3 hb3 hz3 ho3; refine Hid.out ?_))
  refine Lib.hid ?_
  replace HK3 : Hid (BlkQ 42 w3 w.heap.size (destQ h)) := Lib.hid HK3
  have HZ3 : Hid (BlkQ 42 w3 (w.heap.size + 1) zeroQ) := Lib.hid (HZ.out.stay (ho3 _ (by omega)))
  have hL3 : Low w w3 := Below.trans hL hb3
  clear HK HZ hL HDS hb3 hz3 ho3
  obtain ⟨b, o, rfl, hbl, hcell⟩ := HP.out.mem hp0
  have HC : Hid (∀ i, i < pn → w3.cell? ⟨b, o + i * 3, none⟩ = some (.int .i64 (ps.getD i zeroP).k)) := Lib.hid fun i hi => (hL3.cell (p := ⟨b, o + i * 3, none⟩) hbl).trans (hcell i hi).1
  clear hcell hbl
  go_wp2_with fail
  go_loopw [8] (fun i wr => ∃ k : Nat, 1 ≤ k ∧ k ≤ pn ∧ i = .int .i64 k ∧ Hid (∀ j, 1 ≤ j → j < k → (ps.getD j zeroP).k ≠ 43) ∧ Hid (BlkQ 42 wr w.heap.size (destQ h)) ∧ Hid (BlkQ 42 wr (w.heap.size + 1) zeroQ) ∧ Hid (∀ i, i < pn → wr.cell? ⟨b, o + i * 3, none⟩ = some (.int .i64 (ps.getD i zeroP).k)) ∧ Below w.heap.size w wr) (fun i _ => pn - (intOf i).toNat)
  case atStart => exact ⟨1, Nat.le_refl _, by omega, rfl, Lib.hid (fun j h1 h2 => absurd h2 (by omega)), HK3, HZ3, HC, hL3⟩
  case round =>
    clear HK3 HZ3 HC hL3
    obtain ⟨k, hk1, hk, rfl, HN, HK3, HZ3, HC, hL3⟩ := hrel
    have HQ1 : Hid ((destQ h).h.s.length = 16) := HS
    have HQ2 : Hid ((destQ h).h.d.length = 16) := HD
    have HQ3 : Hid ((destQ h).f.length = 16) := HD
    by_cases hlt : k < pn
    · have c1 := HC.out k hlt
      obtain ⟨x, hx⟩ : ∃ x, x = (ps.getD k zeroP).k := ⟨_, rfl⟩
      rw [← hx] at c1
      replace hx := Lib.hid hx
      have d1 : decide ((k : Int) < pn) = true := by simp; omega
      by_cases h43 : x = 43
      · have HE := Lib.hid (rtErr_lat (xs := xs) (d := h.d) (latB_yes hk1 (by rw [HPL.out]; exact hlt) (by rw [← hx.out]; exact h43)))
        subst h43
        go_wp2_with (first | (with_reducible refine wpList_load_pq pkt_ref rfl (.tmp 3) rfl w.heap.size rfl (destQ h) HK3.out HQ1.out HQ2.out HQ3.out ?_) | ((refine wpList_store_pq pkt_ref rfl (.tmp 6) (.tmp 28) rfl (w.heap.size + 1) rfl (destQ h) rfl zeroQ HZ3.out rfl rfl rfl HQ1.out HQ2.out HQ3.out ?_); intro w4 HG hb4 hz4 ho4; refine Hid.out ?_))
        refine Lib.hid ?_
        replace HG := Lib.hid HG
        go_wp2_with fail
        exact ret_pq pkt_ref Tryz.results17 rfl rfl HG.out HS.out HD.out HD.out ⟨destQ h, by rw [HE.out], ⟨HS.out, HD.out, HD.out⟩, Below.trans hL3 (hb4.mono (by omega)), fun e => absurd e (by rw [HE.out]; omega)⟩ rfl
      · have HN2 : Hid (∀ j, 1 ≤ j → j < k + 1 → (ps.getD j zeroP).k ≠ 43) := Lib.hid fun j h1 h2 => by
          rcases Nat.lt_or_ge j k with h3 | h3
          · exact HN.out j h1 h3
          · obtain rfl : j = k := by omega
            rw [← hx.out]
            exact h43
        have h43' : (x == 43) = false := by simpa using h43
        go_wp2_with fail
        go_roundw
        case rel => exact ⟨k + 1, by omega, by omega, by go_num, HN2, HK3, HZ3, HC, hL3⟩
        case measure => simp [intOf]; omega
    · obtain rfl : k = pn := by omega
      have HLT := Lib.hid (latB_no (ps := ps) (fun j h1 h2 => HN.out j h1 (by rw [HPL.out] at h2; exact h2)))
      have c0 := HC.out 0 hp0
      rw [Nat.zero_mul, Nat.add_zero] at c0
      obtain ⟨x, hx⟩ : ∃ x, x = (ps.getD 0 zeroP).k := ⟨_, rfl⟩
      rw [← hx] at c0
      replace hx := Lib.hid hx
      have hp0i : (0 : Int) < k := by omega
      by_cases h43 : x = 43
      · have HI := Lib.hid (show rtIs ps = true by unfold rtIs; rw [← hx.out, h43]; rfl)
        subst h43
        obtain ⟨bb, oo, rfl, hbb, -⟩ := HB.out.mem (by omega)
        obtain ⟨A2, hs2, hA2⟩ := slc_from bb oo n c 40 40 hc rfl h40
        have HB2 := Lib.hid (HB.out.cutFrom h40 hA2)
        have HS2 := Lib.hid hs2
        clear hs2 hA2 hbb
        go_wp2_with (refine slc_wp rfl _ (.tmp 36) (some (.const (.int .i64 40))) none none rfl _ (HS2.out wr) ?_; refine Hid.out ?_)
        refine Lib.hid ?_
        go_wp2_with fail
        refine (rsrparse_any A2 (n - 40) (c - 40) (xs.drop 40) wr (by omega) (by omega) (by omega) (HB2.out.below' hL3 hL3.size)).mono ?_
        rintro e w5 ⟨s, rfl, hv, hk5, hB5, hf5⟩
        have hB5' : Low wr w5 := hB5
        have hlo : w.heap.size + 1 < wr.heap.size := HZ3.out.lt
        have HLO := Lib.hid (show w.heap.size ≤ wr.heap.size by omega)
        replace hL3 : Low w w5 := Low.trans hL3 hB5'
        replace HK3 := Lib.hid (HK3.out.below hB5' HK3.out.lt)
        replace HZ3 := Lib.hid (HZ3.out.below hB5' HZ3.out.lt)
        have HV := Lib.hid hv
        have HSK := Lib.hid hk5
        have HSF := Lib.hid hf5
        clear hv hk5 hf5 hB5 HB2 HS2 c0 HC HP HN
        obtain ⟨er, her⟩ : ∃ er, er = errR (xs.drop 40) := ⟨_, rfl⟩
        obtain ⟨ln, hln⟩ : ∃ ln, ln = lenR (xs.drop 40) := ⟨_, rfl⟩
        rw [← her, ← hln]
        have HER := Lib.hid her
        clear her hln
        unfold srV
        go_wp2_with ((with_reducible refine wpList_alloc_sr rfl rfl ?_); intro w6 HY hl6 hz6; refine Hid.out ?_)
        refine Lib.hid ?_
        have hlk := HK3.out.lt
        have hlz := HZ3.out.lt
        have hl5 := hB5'.size
        go_wp2_with ((refine wpList_store_srB rfl (.tmp 9) (.tmp 39) rfl w5.heap.size rfl s rfl zeroSr HY ?_); intro w7 HG hb7 hz7 ho7; refine Hid.out ?_)
        refine Lib.hid ?_
        have hl7 : Low w5 w7 := Below.trans hl6 hb7
        have HG7 := Lib.hid HG
        replace HK3 := Lib.hid (HK3.out.below hl7 HK3.out.lt)
        replace HZ3 := Lib.hid (HZ3.out.below hl7 HZ3.out.lt)
        replace HSK := Lib.hid (HSK.out.low hl7)
        replace hL3 : Low w w7 := Low.trans hL3 hl7
        have hW7 : wr.heap.size ≤ w7.heap.size := by have := hl7.size; omega
        obtain ⟨g9, hg9⟩ : ∃ g, g = w5.heap.size := ⟨_, rfl⟩
        rw [← hg9] at HG7 hlk hlz hl5 ⊢
        clear HY HG hl6 hz6 hb7 hz7 ho7 hl7 hg9 hB5'
        by_cases he : er = 0
        · subst he
          have hE0 : errR (xs.drop 40) = 0 := HER.out.symm
          have ha0 := aheadR_zero (errR_zero hE0).1
          have HR := Lib.hid (show s.v = saysR (xs.drop 40) by rw [HV.out]; unfold parseR; rw [if_pos hE0])
          have hsgl : s.sg.length = manyR (xs.drop 40) := by
            have e := congrArg (fun r : Rb => r.sg.length) HR.out
            exact e.trans (chunksR_len _ _)
          have hsle : s.le = (xs.drop 40).getD 3 0 := congrArg Rb.le HR.out
          have h3r := (HB.out.all.drop 40).getD 3
          have hgl := HSK.out.sg.len
          obtain ⟨i, hi⟩ : ∃ i : Nat, s.le = i := ⟨s.le.toNat, by omega⟩
          have hig : i < s.gm := by omega
          have hg0 : 0 < s.gm := by omega
          obtain ⟨gb, go, hgA, hgl2⟩ := HSF.out.sg hg0
          have hsg := HSK.out.sg
          rw [hgA] at hsg
          have HR1 := Lib.hid (hsg.at_ hig)
          have HR2 := Lib.hid (hsg.at_ hg0)
          have HX1L := Lib.hid (hsg.all.getD i).1
          have HX2L := Lib.hid (hsg.all.getD 0).1
          have HX2A := Lib.hid (hsg.all.getD 0).2
          have HX1 := Lib.hid (show segR (saysR (xs.drop 40)).sg (saysR (xs.drop 40)).le = s.sg.getD i zero16 by
            rw [← HR.out]
            show segR s.sg s.le = _
            rw [hi, segR_at (by omega)])
          have HX2 := Lib.hid (show (saysR (xs.drop 40)).sg.getD 0 zero16 = s.sg.getD 0 zero16 by rw [← HR.out]; rfl)
          obtain ⟨x1, hx1⟩ : ∃ x, x = s.sg.getD i zero16 := ⟨_, rfl⟩
          obtain ⟨x2, hx2⟩ : ∃ x, x = s.sg.getD 0 zero16 := ⟨_, rfl⟩
          rw [← hx1] at HR1 HX1L HX1
          rw [← hx2] at HR2 HX2L HX2A HX2
          rw [Nat.zero_mul, Nat.add_zero] at HR2
          have hbw : gb ≠ w.heap.size := by omega
          have hg9w : g9 ≠ w.heap.size := by omega
          obtain ⟨c0, c1, c2, c3, c4, c5⟩ := BlkR.cells HG7.out
          rw [hi] at c1
          rw [hgA] at c4
          replace c1 := Lib.hid c1
          replace c4 := Lib.hid c4
          have d0 : decide ((0 : Int) < (s.gm : Int)) = true := by simp; omega
          have hgm : 0 < (s.gm : Int) := by omega
          clear hx1 hx2 hsg hgl hsgl hsle h3r ha0 c0 c2 c3 c5
          go_wp2_with fail
          refine wp_region_planS (fun y => BlkR y g9 s ∧ y.cell? ⟨g9, 4, none⟩ = some (.slice (some ⟨gb, go, none⟩) s.gm s.gc) ∧ y.rangeAt gb go (cellsB x2))
            (.rd 0 (.rd 1 (.rd 2 (.rd 3 (.rd 4 (.rd 5 (.act 6 (.rd 7 (.act 8 (.rd 9 (.act 10 (.done))))))))))))
            (by kernel_rfl) (by kernel_rfl) (fun _ _ d _ _ h => by cases d <;> exact h) (by kernel_rfl) ⟨HG7.out, c4.out, HR2.out.2⟩ ?_
          have hDR : Low w7 w7.drew := Below.drew (Below.refl _ _)
          replace HK3 := Lib.hid (HK3.out.below hDR HK3.out.lt)
          replace HZ3 := Lib.hid (HZ3.out.below hDR HZ3.out.lt)
          replace HSK := Lib.hid (HSK.out.low hDR)
          replace HG7 : Hid (BlkR w7.drew g9 s) := HG7
          replace c1 : Hid (w7.drew.cell? ⟨g9, 1, none⟩ = _) := c1
          replace c4 : Hid (w7.drew.cell? ⟨g9, 4, none⟩ = _) := c4
          replace HR1 : Hid (gb < w7.drew.heap.size ∧ w7.drew.rangeAt gb (go + i * 16) (cellsB x1)) := HR1
          replace HR2 : Hid (gb < w7.drew.heap.size ∧ w7.drew.rangeAt gb go (cellsB x2)) := HR2
          replace hL3 := hL3.trans hDR
          replace hW7 : wr.heap.size ≤ w7.drew.heap.size := hW7
          clear hDR
          generalize w7.drew = w8 at *
          iterate 6 (refine walkS_read (v := _) rfl (by rfl) (by
            rintro y ⟨e0, e1, e2⟩
            first
              | exact exec_load_sr rfl e0
              | exact exec_load_at (b := gb) (p := go) rfl HX2L.out e2
              | (go_simp; try rfl)) ?_; simp only [Act.put, List.setIfInBounds_toArray, List.set_cons_zero, List.set_cons_succ])
          have c37 := rangeAt_one (HK3.out.rt HQ1.out HQ2.out HQ3.out)
          have f37 := HK3.out.room 37
          refine walkS_act rfl (by rfl) (fun K hK => ?_)
          go_simp
          have ho9 := setCell_others w8 ⟨w.heap.size, 37, none⟩ (.bool true)
          have HK9 : Hid (BlkQ 42 (w8.setCell ⟨w.heap.size, 37, none⟩ (.bool true)) w.heap.size (setRt true (destQ h))) := Lib.hid (HK3.out.setRt HQ1.out HQ2.out HQ3.out true)
          have hL9 : Low w (w8.setCell ⟨w.heap.size, 37, none⟩ (.bool true)) := hL3.setCell (Nat.le_refl _) _
          have hz9 : (w8.setCell ⟨w.heap.size, 37, none⟩ (.bool true)).heap.size = w8.heap.size := by simp
          refine hK _ _ ⟨(ho9 g9 hg9w).trans HG7.out, cell_stay c4.out (ho9 g9 hg9w), rangeAt_stay HR2.out.2 (ho9 gb hbw)⟩ ?_
          clear hK K c37 f37
          generalize w8.setCell ⟨w.heap.size, 37, none⟩ (.bool true) = w9 at *
          refine walkS_read (v := _) rfl (by rfl) (by rintro y ⟨e0, e1, e2⟩; go_simp; try rfl) ?_
          simp only [Act.put, List.setIfInBounds_toArray, List.set_cons_zero, List.set_cons_succ]
          refine walkS_act rfl (by rfl) (fun K hK => ?_)
          refine wp_store_srq (.tmp 52) (.tmp 46) rfl w.heap.size rfl s rfl (setRt true (destQ h)) HK9.out HQ1.out HQ2.out HQ3.out (fun w10 HK10 hb10 hz10 ho10 => ?_)
          have hox : ∀ k : Nat, k ≠ w.heap.size → w10.heap[k]? = w8.heap[k]? := fun k hk => (ho10 k hk).trans (ho9 k hk)
          refine hK _ _ ⟨(hox g9 hg9w).trans HG7.out, cell_stay c4.out (hox g9 hg9w), rangeAt_stay HR2.out.2 (hox gb hbw)⟩ ?_
          clear hK K
          simp only [Act.put]
          refine walkS_read (v := _) rfl (by rfl) (by rintro y ⟨e0, e1, e2⟩; go_simp; try rfl) ?_
          simp only [Act.put, List.setIfInBounds_toArray, List.set_cons_zero, List.set_cons_succ]
          refine walkS_act rfl (by rfl) (fun K hK => ?_)
          refine wp_store_fin (.tmp 53) (.tmp 50) rfl w.heap.size rfl x2 rfl (setSr s (setRt true (destQ h))) HK10 HQ1.out HQ2.out HQ3.out HX2L.out (fun w11 HK11 hb11 hz11 ho11 => ?_)
          have hoy : ∀ k : Nat, k ≠ w.heap.size → w11.heap[k]? = w8.heap[k]? := fun k hk => (ho11 k hk).trans (hox k hk)
          refine hK _ _ ⟨(hoy g9 hg9w).trans HG7.out, cell_stay c4.out (hoy g9 hg9w), rangeAt_stay HR2.out.2 (hoy gb hbw)⟩ ?_
          clear hK K
          simp only [Act.put]
          unfold walkS
          have HKE : Hid (BlkQ 42 w11 w.heap.size (setFin x2 (setSr s (setRt true (destQ h))))) := Lib.hid HK11
          have HZE : Hid (BlkQ 42 w11 (w.heap.size + 1) zeroQ) := Lib.hid (HZ3.out.stay (hoy _ (by omega)))
          have HSKE : Hid (s.ok w11 w11.heap.size) := Lib.hid (by
            have e : w11.heap.size = w8.heap.size := by omega
            rw [e]
            exact HSK.out.upper HSF.out fun p h1 h2 => World.cell?_of_block (hoy _ (by omega)))
          have hLE : Low w w11 := Below.trans (Below.trans hL9 hb10) hb11
          have HRE1 : Hid (gb < w11.heap.size ∧ w11.rangeAt gb (go + i * 16) (cellsB x1)) := Lib.hid ⟨by have := HR1.out.1; omega, rangeAt_stay HR1.out.2 (hoy gb hbw)⟩
          have C1 : Hid (w11.cell? ⟨g9, 1, none⟩ = some (.int .i64 i)) := Lib.hid (cell_stay c1.out (hoy g9 hg9w))
          have C4 : Hid (w11.cell? ⟨g9, 4, none⟩ = some (.slice (some ⟨gb, go, none⟩) s.gm s.gc)) := Lib.hid (cell_stay c4.out (hoy g9 hg9w))
          have HQE1 : Hid ((setFin x2 (setSr s (setRt true (destQ h)))).h.s.length = 16) := HS
          have HQE2 : Hid ((setFin x2 (setSr s (setRt true (destQ h)))).h.d.length = 16) := HD
          have HQE3 : Hid ((setFin x2 (setSr s (setRt true (destQ h)))).f.length = 16) := HX2L
          have HDE : Hid (w11.rangeAt w.heap.size 21 (cellsB h.d)) := Lib.hid (HKE.out.dst HS.out)
          have hg9l : g9 < w11.heap.size := by have := HG7.out.lt; omega
          clear HK3 HZ3 HSK HG7 c1 c4 HR1 HR2 hL3 HK9 hL9 HK10 HK11 hb10 hz10 ho10 hb11 hz11 ho11 hox hoy ho9 hz9
          go_wp2_with fail
          refine wp_region_plan (.rd 0 (.rd 1 (.rd 2 (.rd 3 (.rd 4 (.rd 5 (.rd 6 (.rd 7 (.rd 8 (.rd 9 (.done)))))))))))
            (by kernel_rfl) (by kernel_rfl) (fun _ _ d _ _ h => by cases d <;> exact h) (by kernel_rfl) ?_
          have hDR : Low w11 w11.drew := Below.drew (Below.refl _ _)
          replace HKE := Lib.hid (HKE.out.below hDR HKE.out.lt)
          replace HZE := Lib.hid (HZE.out.below hDR HZE.out.lt)
          replace HSKE := Lib.hid (HSKE.out.low hDR)
          replace C1 : Hid (w11.drew.cell? ⟨g9, 1, none⟩ = _) := C1
          replace C4 : Hid (w11.drew.cell? ⟨g9, 4, none⟩ = _) := C4
          replace HRE1 : Hid (gb < w11.drew.heap.size ∧ w11.drew.rangeAt gb (go + i * 16) (cellsB x1)) := HRE1
          replace HDE : Hid (w11.drew.rangeAt w.heap.size 21 (cellsB h.d)) := HDE
          replace hLE := hLE.trans hDR
          replace hg9l : g9 < w11.drew.heap.size := hg9l
          clear hDR
          generalize w11.drew = w12 at *
          have hwl := HKE.out.lt
          have HEQ := Lib.hid (fun u => eq_addr x1 h.d HX1L.out HD.out u)
          obtain ⟨qb, hqb⟩ : ∃ qb, qb = (x1 == h.d) := ⟨_, rfl⟩
          rw [← hqb] at HEQ
          replace hqb := Lib.hid hqb
          have hi0 : (0 : Int) ≤ i := by omega
          have hii : (i : Int) < s.gm := by omega
          iterate 10 (refine walkP_read (v := _) rfl (by rfl) (by
            intro y hy
            have e1 := (hy.cell (p := ⟨g9, 1, none⟩) hg9l).trans C1.out
            have e4 := (hy.cell (p := ⟨g9, 4, none⟩) hg9l).trans C4.out
            have e5 := HEQ.out y
            first
              | exact exec_load_at (b := gb) (p := go + i * 16) rfl HX1L.out (rangeAt_below HRE1.out.2 hy HRE1.out.1)
              | exact exec_load_at (b := w.heap.size) (p := 21) rfl HD.out (rangeAt_below HDE.out hy hwl)
              | (go_simp; try rfl)) ?_; simp only [Act.put, List.setIfInBounds_toArray, List.set_cons_zero, List.set_cons_succ])
          unfold walkP
          clear HEQ C1 C4 HRE1 HDE hwl hg9l
          have HRV := Lib.hid (show rtR xs ps = saysR (xs.drop 40) ∧ rtFin xs ps h.d = x2 by unfold rtR rtFin; rw [HI.out]; exact ⟨rfl, HX2.out⟩)
          cases qb
          · have hneq : ¬ x1 = h.d := by
              have := hqb.out
              intro e
              rw [e] at this
              simp at this
            have HE := Lib.hid (show rtErr xs ps h.d = 5 by unfold rtErr; rw [HLT.out, HI.out, if_neg (by decide), if_pos rfl, if_pos HER.out.symm, HX1.out, if_neg hneq])
            go_wp2_with (first | (with_reducible refine wpList_load_pq pkt_ref rfl (.tmp 3) rfl w.heap.size rfl _ HKE.out HQE1.out HQE2.out HQE3.out ?_) | ((refine wpList_store_pq pkt_ref rfl (.tmp 6) (.tmp 64) rfl (w.heap.size + 1) rfl _ rfl zeroQ HZE.out rfl rfl rfl HQE1.out HQE2.out HQE3.out ?_); intro w13 HG hb4 hz4 ho4; refine Hid.out ?_))
            refine Lib.hid ?_
            replace HG := Lib.hid HG
            go_wp2_with fail
            exact ret_pq pkt_ref Tryz.results17 rfl rfl HG.out HS.out HD.out HX2L.out ⟨_, by rw [HE.out], ⟨HS.out, HD.out, HX2L.out⟩, Below.trans hLE (hb4.mono (by omega)), fun e => absurd e (by rw [HE.out]; omega)⟩ rfl
          · have heq : x1 = h.d := by
              have := hqb.out
              simpa using this.symm
            have HE := Lib.hid (show rtErr xs ps h.d = 0 by unfold rtErr; rw [HLT.out, HI.out, if_neg (by decide), if_pos rfl, if_pos HER.out.symm, HX1.out, if_pos heq])
            go_wp2_with (first | (with_reducible refine wpList_load_pq pkt_ref rfl (.tmp 3) rfl w.heap.size rfl _ HKE.out HQE1.out HQE2.out HQE3.out ?_) | ((refine wpList_store_pq pkt_ref rfl (.tmp 6) (.tmp 65) rfl (w.heap.size + 1) rfl _ rfl zeroQ HZE.out rfl rfl rfl HQE1.out HQE2.out HQE3.out ?_); intro w13 HG hb4 hz4 ho4; refine Hid.out ?_))
            refine Lib.hid ?_
            replace HG := Lib.hid HG
            have HSK13 : Hid (s.ok w13 w13.heap.size) := Lib.hid (by
              rw [hz4]
              exact HSKE.out.upper HSF.out fun p h1 h2 => World.cell?_of_block (ho4 _ (by omega)))
            go_wp2_with fail
            exact ret_pq pkt_ref Tryz.results17 rfl rfl HG.out HS.out HD.out HX2L.out ⟨_, by rw [HE.out], ⟨HS.out, HD.out, HX2L.out⟩, Below.trans hLE (hb4.mono (by omega)), fun _ => ⟨by rw [HI.out, HRV.out.1, HRV.out.2, ← HR.out]; rfl, ⟨HH.out, HSK13.out, HX2L.out, HX2A.out, by show i64ok 0; unfold i64ok; omega, zeroS_ok _ _, zeroM_ok _ _, by show 0 ≤ _; omega, Bs.nil _ _ _⟩, HSF.out.lessK HLO.out⟩⟩ rfl
        · have hne : (er != 0) = true := by simpa using he
          have HE := Lib.hid (show rtErr xs ps h.d = er by unfold rtErr; rw [HLT.out, HI.out, if_neg (by decide), if_pos rfl, ← HER.out, if_neg he])
          go_wp2_with (first | (with_reducible refine wpList_load_pq pkt_ref rfl (.tmp 3) rfl w.heap.size rfl (destQ h) HK3.out HQ1.out HQ2.out HQ3.out ?_) | ((refine wpList_store_pq pkt_ref rfl (.tmp 6) (.tmp 44) rfl (w.heap.size + 1) rfl (destQ h) rfl zeroQ HZ3.out rfl rfl rfl HQ1.out HQ2.out HQ3.out ?_); intro w8 HG hb4 hz4 ho4; refine Hid.out ?_))
          refine Lib.hid ?_
          replace HG := Lib.hid HG
          go_wp2_with fail
          exact ret_pq pkt_ref Tryz.results17 rfl rfl HG.out HS.out HD.out HD.out ⟨destQ h, by rw [HE.out], ⟨HS.out, HD.out, HD.out⟩, Below.trans hL3 (hb4.mono (by omega)), fun e => absurd e (by rw [HE.out]; exact he)⟩ rfl
      · have HI := Lib.hid (show rtIs ps = false by unfold rtIs; rw [← hx.out, decide_eq_false h43])
        have h43' : (x != 43) = true := by simpa using h43
        have HE := Lib.hid (show rtErr xs ps h.d = 0 by unfold rtErr; rw [HLT.out, HI.out]; rfl)
        have HV := Lib.hid (show rtR xs ps = zeroRb ∧ rtFin xs ps h.d = h.d by unfold rtR rtFin; rw [HI.out]; exact ⟨rfl, rfl⟩)
        go_wp2_with (first | (with_reducible refine wpList_load_pq pkt_ref rfl (.tmp 3) rfl w.heap.size rfl (destQ h) HK3.out HQ1.out HQ2.out HQ3.out ?_) | ((refine wpList_store_pq pkt_ref rfl (.tmp 6) (.tmp 34) rfl (w.heap.size + 1) rfl (destQ h) rfl zeroQ HZ3.out rfl rfl rfl HQ1.out HQ2.out HQ3.out ?_); intro w4 HG hb4 hz4 ho4; refine Hid.out ?_))
        refine Lib.hid ?_
        replace HG := Lib.hid HG
        go_wp2_with fail
        exact ret_pq pkt_ref Tryz.results17 rfl rfl HG.out HS.out HD.out HD.out ⟨destQ h, by rw [HE.out], ⟨HS.out, HD.out, HD.out⟩, Below.trans hL3 (hb4.mono (by omega)), fun _ => ⟨by rw [HI.out, HV.out.1, HV.out.2]; rfl, ⟨HH.out, zeroSr_ok _ _, HD.out, HH.out.vd, by show i64ok 0; unfold i64ok; omega, zeroS_ok _ _, zeroM_ok _ _, by show 0 ≤ _; omega, Bs.nil _ _ _⟩, zeroSr_from _⟩⟩ rfl
end Go.Proofs.YtjafjapnmffohaaGreatDoor
