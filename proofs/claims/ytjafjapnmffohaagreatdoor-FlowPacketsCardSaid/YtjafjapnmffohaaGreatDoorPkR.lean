/- What the program's own routed of packets tells. Conditions: at most 2^47 bytes; the packet so far is its fixed header, and where it goes. -/
import Derived.Test.YtjafjapnmffohaaGreatDoorPkN
set_option maxRecDepth 100000
namespace Go.Proofs.YtjafjapnmffohaaGreatDoor
open Go.RowKit
set_option linter.unusedVariables false

/-- a packet with a routing header, and an error -/
def GivesRt (w : World) (zs : List Int) (h : Hd) (e : Ending) (w' : World) : Prop :=
  ∃ q : Pq, e = .returned (.tuple #[pqV q, .int .i64 (rE zs h.d)]) ∧ (q.h.s.length = 16 ∧ q.h.d.length = 16 ∧ q.f.length = 16) ∧ Below w.heap.size w w' ∧
    (rE zs h.d = 0 → q.v = ⟨h, true, saysR zs, (saysR zs).sg.getD 0 zero16, 0, zeroSb, zeroMb, []⟩ ∧ q.ok w' w'.heap.size ∧ q.r.from_ w.heap.size)
theorem GivesRt.no {w w' : World} {zs : List Int} {h : Hd} {k : Int} (he : rE zs h.d = k) (hk : k ≠ 0) (hB : Below w.heap.size w w') : GivesRt w zs h (.returned (.tuple #[pqV zeroQ, .int .i64 k])) w' :=
  ⟨zeroQ, by rw [he], ⟨rfl, rfl, rfl⟩, hB, fun e => absurd e (by rw [he]; exact hk)⟩

set_option maxRecDepth 100000 in
set_option maxHeartbeats 6400000 in
theorem routed_any (h : Hd) (A : Option Addr) (n c : Nat) (zs : List Int) (w : World) (hh : h.ok) (hn : n ≤ 140737488351232) (hc : n ≤ c) (hc2 : c ≤ 9223372036854775807) (hb : Bs w w.heap.size A n zs) :
    Calls Tryz.prog 9 #[pqV (destQ h), .slice A n c] w (GivesRt w zs h) := by
  unfold pqV
  have HB := Lib.hid hb
  have HH := Lib.hid hh
  have HS := Lib.hid hh.s
  have HD := Lib.hid hh.d
  have HQ1 : Hid ((destQ h).h.s.length = 16) := HS
  have HQ2 : Hid ((destQ h).h.d.length = 16) := HD
  have HQ3 : Hid ((destQ h).f.length = 16) := HD
  clear hb hh
  go_enter Tryz.func9, Tryz.ntmps9
  go_wp2_with (first | ((with_reducible refine wpList_box_pq rfl (.tmp 0) rfl (destQ h) rfl ?_); intro w1 HK hL hz1) | ((with_reducible refine wpList_alloc_pq pkt_own rfl rfl ?_); intro w2 HZ hl hz2; refine Hid.out ?_))
  refine Lib.hid ?_
  rw [hz1] at HZ
  replace HK := Lib.hid (HK.below hl HK.lt)
  replace HZ := Lib.hid HZ
  replace hL := hL.trans hl
  clear hz1 hz2 hl
  go_wp2_with fail
  refine (srparse_any A n c zs w2 (by omega) hc hc2 (HB.out.below' hL hL.size)).mono ?_
  rintro e w5 ⟨s, rfl, hv, hk5, hB5, hf5⟩
  have hB5' : Low w2 w5 := hB5
  have hlo : w.heap.size + 1 < w2.heap.size := HZ.out.lt
  have HLO := Lib.hid (show w.heap.size ≤ w2.heap.size by omega)
  replace hL : Low w w5 := Low.trans hL hB5'
  replace HK := Lib.hid (HK.out.below hB5' HK.out.lt)
  replace HZ := Lib.hid (HZ.out.below hB5' HZ.out.lt)
  have HV := Lib.hid hv
  have HSK := Lib.hid hk5
  have HSF := Lib.hid hf5
  have HALL := Lib.hid HB.out.all
  clear hv hk5 hf5 hB5 HB
  obtain ⟨er, her⟩ : ∃ er, er = errR zs := ⟨_, rfl⟩
  obtain ⟨ln, hln⟩ : ∃ ln, ln = lenR zs := ⟨_, rfl⟩
  rw [← her, ← hln]
  have HER := Lib.hid her
  clear her hln
  unfold srV
  go_wp2_with ((with_reducible refine wpList_alloc_sr rfl rfl ?_); intro w6 HY hl6 hz6; refine Hid.out ?_)
  refine Lib.hid ?_
  have hlk := HK.out.lt
  have hlz := HZ.out.lt
  have hl5 := hB5'.size
  go_wp2_with ((refine wpList_store_srB rfl (.tmp 6) (.tmp 14) rfl w5.heap.size rfl s rfl zeroSr HY ?_); intro w7 HG hb7 hz7 ho7; refine Hid.out ?_)
  refine Lib.hid ?_
  have hl7 : Low w5 w7 := Below.trans hl6 hb7
  have HG7 := Lib.hid HG
  replace HK := Lib.hid (HK.out.below hl7 HK.out.lt)
  replace HZ := Lib.hid (HZ.out.below hl7 HZ.out.lt)
  replace HSK := Lib.hid (HSK.out.low hl7)
  replace hL : Low w w7 := Low.trans hL hl7
  obtain ⟨g9, hg9⟩ : ∃ g, g = w5.heap.size := ⟨_, rfl⟩
  rw [← hg9] at HG7 hlk hlz hl5 ⊢
  clear HY HG hl6 hz6 hb7 hz7 ho7 hl7 hg9 hB5'
  by_cases he : er = 0
  · subst he
    have hE0 : errR zs = 0 := HER.out.symm
    have HRE := Lib.hid (show rE zs h.d = if segR (saysR zs).sg (saysR zs).le = h.d then 0 else 5 by unfold rE; rw [if_pos hE0])
    have ha0 := aheadR_zero (errR_zero hE0).1
    have HR := Lib.hid (show s.v = saysR zs by rw [HV.out]; unfold parseR; rw [if_pos hE0])
    have hsgl : s.sg.length = manyR zs := by
      have e := congrArg (fun r : Rb => r.sg.length) HR.out
      exact e.trans (chunksR_len _ _)
    have hgl := HSK.out.sg.len
    have hg0 : 0 < s.sg.length := by omega
    have HX2A := Lib.hid (HSK.out.sg.all.getD 0).2
    have HX1L := Lib.hid (segR_len HSK.out.sg.all s.le)
    have HX2L := Lib.hid (segR_len HSK.out.sg.all 0)
    have HX1 := Lib.hid (show segR (saysR zs).sg (saysR zs).le = segR s.sg s.le by rw [← HR.out]; rfl)
    have HX2 := Lib.hid (show (saysR zs).sg.getD 0 zero16 = segR s.sg 0 by
      rw [← HR.out]
      exact (segR_at (l := s.sg) (k := 0) hg0).symm)
    have HX2B := Lib.hid (show AllB (segR s.sg 0) by rw [← HX2.out, ← HR.out]; exact HX2A.out)
    clear hsgl hgl hg0 ha0 HX2A
    go_wp2_with (with_reducible refine wpList_load_sr rfl (.tmp 6) rfl g9 rfl s HG7.out ?_)
    refine (active_any s w7 HSK.out).mono ?_
    rintro e w8 ⟨rfl, hl⟩
    obtain ⟨x1, hx1⟩ : ∃ x, x = segR s.sg s.le := ⟨_, rfl⟩
    obtain ⟨b1, hb1⟩ : ∃ x, x = thereR s.sg s.le := ⟨_, rfl⟩
    rw [← hx1] at HX1L HX1 ⊢
    rw [← hb1]
    have hl8 : Low w7 w8 := hl
    replace HK := Lib.hid (HK.out.below hl8 HK.out.lt)
    replace HZ := Lib.hid (HZ.out.below hl8 HZ.out.lt)
    replace HG7 := Lib.hid (HG7.out.below hl8 HG7.out.lt)
    replace HSK := Lib.hid (HSK.out.low hl8)
    replace hL := hL.trans hl8
    clear hl hl8 hx1 hb1
    unfold addrV
    go_wp2_with ((with_reducible refine wpList_alloc_v rfl 24 rfl (cellsB zero16) addr_zeroR ?_); intro w9 HY hl9 hz9; refine Hid.out ?_)
    refine Lib.hid ?_
    have HY9 : Hid (Blk w9 24 w8.heap.size zero16) := Lib.hid HY
    have hlk := HK.out.lt
    have hlz := HZ.out.lt
    have hlg := HG7.out.lt
    go_wp2_with (refine wpList_store_addr rfl (.tmp 9) (.tmp 24) rfl w8.heap.size rfl x1 rfl _ zero16 HY9.out rfl HX1L.out ?_; intro w10 HG10 hb10 hz10; refine Hid.out ?_)
    refine Lib.hid ?_
    have hl10 : Low w8 w10 := Below.trans hl9 hb10
    replace HK := Lib.hid (HK.out.below hl10 HK.out.lt)
    replace HZ := Lib.hid (HZ.out.below hl10 HZ.out.lt)
    replace HG7 : Hid (BlkR w10 g9 s) := Lib.hid (HG7.out.below hl10 HG7.out.lt)
    replace HSK := Lib.hid (HSK.out.low hl10)
    replace hL := hL.trans hl10
    obtain ⟨gA, hgA⟩ : ∃ g, g = w8.heap.size := ⟨_, rfl⟩
    rw [← hgA] at HG10 hlk hlz hlg ⊢
    have HG11 := Lib.hid HG10
    clear HY HY9 hl9 hz9 hb10 hz10 hl10 hgA HG10
    have HDS : Hid (w10.rangeAt w.heap.size 21 (cellsB h.d)) := Lib.hid (HK.out.dst HS.out)
    have heq := fun u => eq_addr x1 h.d HX1L.out HD.out u
    obtain ⟨qb, hqb⟩ : ∃ qb, qb = (x1 == h.d) := ⟨_, rfl⟩
    rw [← hqb] at heq
    replace hqb := Lib.hid hqb
    cases qb
    · have HE := Lib.hid (show rE zs h.d = 5 by
        have hneq : ¬ x1 = h.d := by
          have := hqb.out
          intro e
          rw [e] at this
          simp at this
        rw [HRE.out, HX1.out, if_neg hneq])
      go_wp2_with (first
        | (with_reducible refine wpList_load_addr rfl (.tmp 9) rfl gA rfl _ x1 HG11.out HX1L.out ?_)
        | (with_reducible refine wpList_load_at rfl (.tmp 28) rfl w.heap.size 21 rfl h.d HD.out HDS.out ?_)
        | (with_reducible refine wpList_build0 (pqC zeroQ) build0_pk rfl rfl ?_)
        | ((refine wpList_store_pq pkt_own rfl (.tmp 4) (.tmp 31) rfl (w.heap.size + 1) rfl zeroQ rfl zeroQ HZ.out rfl rfl rfl rfl rfl rfl ?_); intro w14 HG hb14 hz14 ho14; refine Hid.out ?_))
      refine Lib.hid ?_
      replace HG := Lib.hid HG
      go_wp2_with fail
      exact ret_pq pkt_own Tryz.results9 rfl rfl HG.out rfl rfl rfl (GivesRt.no HE.out (by omega) (Below.trans hL (hb14.mono (by omega)))) rfl
    · have HE := Lib.hid (show rE zs h.d = 0 by
        have heq1 : x1 = h.d := by
          have := hqb.out
          simpa using this.symm
        rw [HRE.out, HX1.out, if_pos heq1])
      go_wp2_with (first
        | (with_reducible refine wpList_load_addr rfl (.tmp 9) rfl gA rfl _ x1 HG11.out HX1L.out ?_)
        | (with_reducible refine wpList_load_at rfl (.tmp 28) rfl w.heap.size 21 rfl h.d HD.out HDS.out ?_))
      clear HG11 HDS heq hqb HX1 HX1L HRE
      refine wp_region_planS (fun y => BlkR y g9 s) (.rd 0 (.rd 1 (.act 2 (.rd 3 (.act 4 (.done)))))) (by kernel_rfl) (by kernel_rfl) (fun _ _ d _ _ h => by cases d <;> exact h) (by kernel_rfl) HG7.out ?_
      have hDR : Low w10 w10.drew := Below.drew (Below.refl _ _)
      replace HK := Lib.hid (HK.out.below hDR HK.out.lt)
      replace HZ := Lib.hid (HZ.out.below hDR HZ.out.lt)
      replace HSK := Lib.hid (HSK.out.low hDR)
      replace HG7 : Hid (BlkR w10.drew g9 s) := HG7
      replace hL := hL.trans hDR
      clear hDR
      generalize w10.drew = w11 at *
      iterate 2 (refine walkS_read (v := _) rfl (by rfl) (by
        intro y hy
        first
          | exact exec_load_sr rfl hy
          | (go_simp; try rfl)) ?_; simp only [Act.put, List.setIfInBounds_toArray, List.set_cons_zero, List.set_cons_succ])
      have c37 := rangeAt_one (HK.out.rt HQ1.out HQ2.out HQ3.out)
      have f37 := HK.out.room 37
      have hg9w : g9 ≠ w.heap.size := by omega
      refine walkS_act rfl (by rfl) (fun K hK => ?_)
      go_simp
      have ho9 := setCell_others w11 ⟨w.heap.size, 37, none⟩ (.bool true)
      have HK9 : Hid (BlkQ 38 (w11.setCell ⟨w.heap.size, 37, none⟩ (.bool true)) w.heap.size (setRt true (destQ h))) := Lib.hid (HK.out.setRt HQ1.out HQ2.out HQ3.out true)
      have hL9 : Low w (w11.setCell ⟨w.heap.size, 37, none⟩ (.bool true)) := hL.setCell (Nat.le_refl _) _
      have hz9 : (w11.setCell ⟨w.heap.size, 37, none⟩ (.bool true)).heap.size = w11.heap.size := by simp
      refine hK _ _ ((ho9 g9 hg9w).trans HG7.out) ?_
      clear hK K c37 f37
      generalize w11.setCell ⟨w.heap.size, 37, none⟩ (.bool true) = w12 at *
      refine walkS_read (v := _) rfl (by rfl) (by intro y hy; go_simp; try rfl) ?_
      simp only [Act.put, List.setIfInBounds_toArray, List.set_cons_zero, List.set_cons_succ]
      refine walkS_act rfl (by rfl) (fun K hK => ?_)
      refine wp_store_srq (.tmp 34) (.tmp 32) rfl w.heap.size rfl s rfl (setRt true (destQ h)) HK9.out HQ1.out HQ2.out HQ3.out (fun w13 HK13 hb13 hz13 ho13 => ?_)
      have hox : ∀ k : Nat, k ≠ w.heap.size → w13.heap[k]? = w11.heap[k]? := fun k hk => (ho13 k hk).trans (ho9 k hk)
      refine hK _ _ ((hox g9 hg9w).trans HG7.out) ?_
      clear hK K
      simp only [Act.put]
      unfold walkS
      have HKE : Hid (BlkQ 38 w13 w.heap.size (setSr s (setRt true (destQ h)))) := Lib.hid HK13
      have HZE : Hid (BlkQ 38 w13 (w.heap.size + 1) zeroQ) := Lib.hid (HZ.out.stay (hox _ (by omega)))
      have HGE : Hid (BlkR w13 g9 s) := Lib.hid ((hox g9 hg9w).trans HG7.out)
      have HSKE : Hid (s.ok w13 w13.heap.size) := Lib.hid (by
        have e : w13.heap.size = w11.heap.size := by omega
        rw [e]
        exact HSK.out.upper HSF.out fun p h1 h2 => World.cell?_of_block (hox _ (by omega)))
      have hLE : Low w w13 := Below.trans hL9 hb13
      have HQE1 : Hid ((setSr s (setRt true (destQ h))).h.s.length = 16) := HS
      have HQE2 : Hid ((setSr s (setRt true (destQ h))).h.d.length = 16) := HD
      have HQE3 : Hid ((setSr s (setRt true (destQ h))).f.length = 16) := HD
      clear HK HZ HSK HG7 hL HK9 hL9 HK13 hb13 hz13 ho13 hox ho9 hz9
      go_wp2_with (with_reducible refine wpList_load_sr rfl (.tmp 6) rfl g9 rfl s HGE.out ?_)
      refine (final_any s w13 HSKE.out).mono ?_
      rintro e w14 ⟨rfl, hl⟩
      obtain ⟨x2, hx2⟩ : ∃ x, x = segR s.sg 0 := ⟨_, rfl⟩
      obtain ⟨b2, hb2⟩ : ∃ x, x = thereR s.sg 0 := ⟨_, rfl⟩
      rw [← hx2] at HX2L HX2 HX2B ⊢
      rw [← hb2]
      have hl14 : Low w13 w14 := hl
      replace HKE := Lib.hid (HKE.out.below hl14 HKE.out.lt)
      replace HZE := Lib.hid (HZE.out.below hl14 HZE.out.lt)
      replace HSKE := Lib.hid (HSKE.out.low hl14)
      replace hLE := hLE.trans hl14
      have hsl := HZE.out.lt
      clear hl hl14 hx2 hb2 HGE
      unfold addrV
      go_wp2_with ((refine wpList_store_fin rfl (.tmp 40) (.tmp 38) rfl w.heap.size rfl x2 rfl (setSr s (setRt true (destQ h))) HKE.out HQE1.out HQE2.out HQE3.out HX2L.out ?_); intro w15 HK15 hb15 hz15 ho15; refine Hid.out ?_)
      refine Lib.hid ?_
      have HKF := Lib.hid HK15
      have HZF : Hid (BlkQ 38 w15 (w.heap.size + 1) zeroQ) := Lib.hid (HZE.out.stay (ho15 _ (by omega)))
      have HSKF : Hid (s.ok w15 w15.heap.size) := Lib.hid (by
        rw [hz15]
        exact HSKE.out.upper HSF.out fun p h1 h2 => World.cell?_of_block (ho15 _ (by omega)))
      have hLF : Low w w15 := Below.trans hLE hb15
      have HQF1 : Hid ((setFin x2 (setSr s (setRt true (destQ h)))).h.s.length = 16) := HS
      have HQF2 : Hid ((setFin x2 (setSr s (setRt true (destQ h)))).h.d.length = 16) := HD
      have HQF3 : Hid ((setFin x2 (setSr s (setRt true (destQ h)))).f.length = 16) := HX2L
      clear HKE HZE HSKE hLE HK15 hb15 hz15 ho15 HQE1 HQE2 HQE3
      go_wp2_with ((with_reducible refine wpList_load_pq pkt_own rfl (.tmp 2) rfl w.heap.size rfl (setFin x2 (setSr s (setRt true (destQ h)))) HKF.out HQF1.out HQF2.out HQF3.out ?_); refine Hid.out ?_)
      refine Lib.hid ?_
      go_wp2_with ((refine wpList_store_pq pkt_own rfl (.tmp 4) (.tmp 41) rfl (w.heap.size + 1) rfl (setFin x2 (setSr s (setRt true (destQ h)))) rfl zeroQ HZF.out rfl rfl rfl HQF1.out HQF2.out HQF3.out ?_); intro w16 HG hb16 hz16 ho16; refine Hid.out ?_)
      refine Lib.hid ?_
      replace HG := Lib.hid HG
      have HSKG : Hid (s.ok w16 w16.heap.size) := Lib.hid (by
        rw [hz16]
        exact HSKF.out.upper HSF.out fun p h1 h2 => World.cell?_of_block (ho16 _ (by omega)))
      go_wp2_with fail
      exact ret_pq pkt_own Tryz.results9 rfl rfl HG.out HQF1.out HQF2.out HQF3.out ⟨_, by rw [HE.out], ⟨HS.out, HD.out, HX2L.out⟩, Below.trans hLF (hb16.mono (by omega)), fun _ => ⟨by rw [HX2.out, ← HR.out]; rfl, ⟨HH.out, HSKG.out, HX2L.out, HX2B.out, by show i64ok 0; unfold i64ok; omega, zeroS_ok _ _, zeroM_ok _ _, by show 0 ≤ _; omega, Bs.nil _ _ _⟩, HSF.out.lessK HLO.out⟩⟩ rfl
  · have hne : (er != 0) = true := by simpa using he
    have HE := Lib.hid (show rE zs h.d = er by unfold rE; rw [← HER.out, if_neg he])
    go_wp2_with (first
      | (with_reducible refine wpList_build0 (pqC zeroQ) build0_pk rfl rfl ?_)
      | ((refine wpList_store_pq pkt_own rfl (.tmp 4) (.tmp 19) rfl (w.heap.size + 1) rfl zeroQ rfl zeroQ HZ.out rfl rfl rfl rfl rfl rfl ?_); intro w14 HG hb14 hz14 ho14; refine Hid.out ?_))
    refine Lib.hid ?_
    replace HG := Lib.hid HG
    go_wp2_with fail
    exact ret_pq pkt_own Tryz.results9 rfl rfl HG.out rfl rfl rfl (GivesRt.no HE.out he (Below.trans hL (hb14.mono (by omega)))) rfl
end Go.Proofs.YtjafjapnmffohaaGreatDoor
