/- What the document's Put answers: the bytes of a message. Conditions: addresses are 16 bytes; the body is at most 2^47 - 8192 bytes long. -/
import Derived.Test.YtheagbgojdlfaaaIcB
import Derived.Test.YtheagbgojdlfaaaCkF
import Derived.Test.YtheagbgojdlfaaaReg3
namespace Go.Proofs.Ytheagbgojdlfaaa
open Go.RowKit
set_option linter.unusedVariables false

/-- where a row of the call's own lies: its cells may be stored into -/
theorem OwnB.spot {t : TypeId} {w : World} {base n c : Nat} {A : Option Addr} {ys : List Int} (h : OwnB t w base A n c ys) (hn : 0 < n) :
    ∃ g, A = some ⟨g, 0, none⟩ ∧ base ≤ g ∧ g < w.heap.size ∧ (∀ i, i < n → w.cell? ⟨g, i, none⟩ = some (.int .u8 (ys.getD i 0))) ∧ (∀ i, w.frozen? ⟨g, i, none⟩ = false) ∧
      (∀ k x, k < n → 0 ≤ x → x < 256 → OwnB t (w.setCell ⟨g, k, none⟩ (.int .u8 x)) base (some ⟨g, 0, none⟩) n c (ys.set k x)) := by
  have hl := h.len
  have hb := h.bs (Nat.le_refl _)
  obtain ⟨⟨h1, h2⟩, ha⟩ := h
  rcases h2 with ⟨e, h0⟩ | ⟨g, cap, cur, hv, hbg, hg, hnc, hcm, hsz, htk⟩
  · omega
  · injection hv with hA hn' hc'
    subst hA hc'
    have hlt : g < w.heap.size := (Array.getElem?_eq_some_iff.1 hg).1
    refine ⟨g, rfl, hbg, hlt, fun i hi => ?_, fun i => by simp [World.frozen?, hg], fun k x hk h0 h1 => ⟨⟨by simp [cellsB_length, hl], .inr ⟨g, c, cur.setIfInBounds k (.int .u8 x), rfl, hbg, ?_, hnc, hcm, by simpa using hsz, ?_⟩⟩, ha.set k h0 h1⟩⟩
    · obtain ⟨b, o, e, _, hc⟩ := hb.mem hn
      injection e with e
      injection e with e1 e2 _
      subst e1 e2
      simpa using hc i hi
    · simp [World.setCell, Array.getElem?_modify, hg]
    · have e : cellsB (ys.set k x) = (cellsB ys).set k (.int .u8 x) := by simp [cellsB, List.map_set]
      rw [e, ← htk]
      simp [List.take_set]

set_option maxRecDepth 100000 in
set_option maxHeartbeats 3200000 in
theorem ricput_yes (s d : List Int) (m : Mg) (w : World) (hs : s.length = 16) (hd : d.length = 16) (vs : AllB s) (vd : AllB d) (hm : m.ok w w.heap.size) (hbm : m.bm ≤ 140737488347136) (hok : okM m.v = true) :
    Calls Try.prog 9 #[addrV s, addrV d, msgV m] w (GivesY w (putM s d m.v)) := by
  unfold addrV msgV
  obtain ⟨i0, hi, hz0, hz1, hz2⟩ := info_parts info5
  have HM := Lib.hid hm
  have HS := Lib.hid hs
  have HD := Lib.hid hd
  have VS := Lib.hid vs
  have VD := Lib.hid vd
  have HB0 := Lib.hid (box_first w s d 23 23)
  have HB1 := Lib.hid (box_second w s d 23 23)
  have hL := low2 w s d 23 23
  have hz2' : ((w.alloc (.cells (cellsB s).toArray 23)).alloc (.cells (cellsB d).toArray 23)).heap.size = w.heap.size + 2 := by simp
  have HO := Lib.hid (show putM s d m.v = ((flatM m.v).set 2 (sumM s d m.v / 256 % 256)).set 3 (sumM s d m.v % 256) by unfold putM; rw [if_pos hok])
  have HX := Lib.hid (show flatM m.v = [m.kd, m.cd, 0, 0] ++ four m.wd ++ m.bs from rfl)
  have HF := Lib.hid (show sumM s d m.v = nt (chk s d 58 (flatM m.v)) from rfl)
  have HSR := Lib.hid (sumM_range s d m.v)
  obtain ⟨r1, r2⟩ := okM_yes hok
  replace r1 : 0 ≤ m.kd ∧ m.kd ≤ 255 := r1
  replace r2 : 0 ≤ m.cd ∧ m.cd ≤ 255 := r2
  have hba : AllB [m.kd, m.cd, 0, 0] := AllB.cons r1.1 (by omega) (.cons r2.1 (by omega) (.cons (by omega) (by omega) (.cons (by omega) (by omega) .nil)))
  have HBA := Lib.hid hba
  clear hs hd hm vs vd hok hba
  have d1 : decide (m.kd < 0) = false := by simp; omega
  have d2 : decide (255 < m.kd) = false := by simp; omega
  have d3 : decide (m.cd < 0) = false := by simp; omega
  have d4 : decide (255 < m.cd) = false := by simp; omega
  have k1 : IntKind.u8.wrap m.kd = m.kd := by simp [IntKind.wrap, IntKind.bits, IntKind.signed]; omega
  have k2 : IntKind.u8.wrap m.cd = m.cd := by simp [IntKind.wrap, IntKind.bits, IntKind.signed]; omega
  clear r1 r2
  go_enter Try.func9, Try.ntmps9
  go_wp2_with ((with_reducible refine wpList_box_msg rfl (.tmp 2) rfl m rfl ?_); intro w3 HK hl3 hz3; refine Hid.out ?_)
  refine Lib.hid ?_
  rw [hz2'] at HK hz3
  replace HB0 := Lib.hid (HB0.out.below hl3 HB0.out.lt)
  replace HB1 := Lib.hid (HB1.out.below hl3 HB1.out.lt)
  replace hL := hL.trans hl3
  generalize (w.alloc (.cells (cellsB s).toArray 23)).alloc (.cells (cellsB d).toArray 23) = wx at *
  clear hl3 hz2' hz3
  obtain ⟨c0, c1, c2, c3⟩ := BlkM.cells HK
  replace HK := Lib.hid HK
  go_wp2_with fail
  clear c0 c1 c2 c3 d1 d2 d3 d4
  refine wp_region_planS (fun y => Below w3.drew.heap.size w3.drew y) (.rd 0 (.rd 1 (.rd 2 (.rd 3 (.rd 4 (.rd 5 (.rd 7 (.rd 8 (.fork 6 (.act 9 (.act 10 (.rd 11 (.done)))) 9 (.act 6 (.act 10 (.rd 11 (.done))))))))))))) (by kernel_rfl) (by kernel_rfl) (fun _ _ d _ _ h => by cases d <;> exact h) (by kernel_rfl) (Below.refl _ _) ?_
  replace hL := hL.trans (Below.drew (Below.refl w3.heap.size w3))
  replace HB0 : Hid (Blk w3.drew 23 w.heap.size s) := HB0
  replace HB1 : Hid (Blk w3.drew 23 (w.heap.size + 1) d) := HB1
  replace HK : Hid (BlkM w3.drew (w.heap.size + 2) m) := HK
  generalize w3.drew = u at *
  obtain ⟨c0, c1, c2, c3⟩ := BlkM.cells HK.out
  have hlt := HK.out.lt
  iterate 8 (refine walkS_read (v := _) rfl (by rfl) (by
    intro y hy
    have e0 := (hy.cell (p := ⟨w.heap.size + 2, 0, none⟩) hlt).trans c0; have e1 := (hy.cell (p := ⟨w.heap.size + 2, 1, none⟩) hlt).trans c1; have e2 := (hy.cell (p := ⟨w.heap.size + 2, 2, none⟩) hlt).trans c2
    go_simp; try rfl) ?_; simp only [Act.put, List.setIfInBounds_toArray, List.set_cons_zero, List.set_cons_succ])
  have HC3 := Lib.hid c3
  clear c0 c1 c2 c3 k1 k2
  have hLU : Low u u := Low.refl u
  refine ⟨?fa, ?fb⟩
  case' fa =>
    refine walkS_act rfl (by rfl) (fun K hK => ?_)
    go_simp
    have hla := Low.alloc u (.cells #[.int .u8 m.kd, .int .u8 m.cd, .int .u8 0, .int .u8 0] 5)
    refine hK _ _ hla ?_
    clear hK K
    have hka : Blk (u.alloc (.cells #[.int .u8 m.kd, .int .u8 m.cd, .int .u8 0, .int .u8 0] 5)) 5 u.heap.size [m.kd, m.cd, 0, 0] := Blk.new u 5 [m.kd, m.cd, 0, 0]
    have hOA := OwnB.ofBlk (base := u.heap.size) (n := 4) hka HBA.out (Nat.le_refl _) rfl (by simp only [maxLen]; omega)
    replace hLU := Low.trans hLU hla
    obtain ⟨gA, hgA⟩ : ∃ g, g = u.heap.size := ⟨_, rfl⟩
    rw [show (⟨u.heap.size, 0, none⟩ : Addr) = ⟨gA, 0, none⟩ by rw [hgA]] at hOA ⊢
    clear hla hka hgA
    generalize u.alloc (.cells #[.int .u8 m.kd, .int .u8 m.cd, .int .u8 0, .int .u8 0] 5) = w8 at *
    refine walkS_act rfl (by rfl) (fun K hK => ?_)
    go_simp
    refine (rfour_any m.wd w8 HM.out.wd).mono ?_
    rintro e w9 ⟨AB, cB, rfl, hbB, hl⟩
    go_simp
    replace hOA := hOA.below hl
    replace hLU := Low.trans hLU hl
    refine hK _ _ hLU ?_
    clear hK K hl
  case' fb =>
    refine walkS_act rfl (by rfl) (fun K hK => ?_)
    go_simp
    refine (rfour_any m.wd u HM.out.wd).mono ?_
    rintro e w8 ⟨AB, cB, rfl, hbB, hl⟩
    go_simp
    replace hLU := Low.trans hLU hl
    refine hK _ _ hLU ?_
    clear hK K hl
    refine walkS_act rfl (by rfl) (fun K hK => ?_)
    go_simp
    have hla := Low.alloc w8 (.cells #[.int .u8 m.kd, .int .u8 m.cd, .int .u8 0, .int .u8 0] 5)
    have hka : Blk (w8.alloc (.cells #[.int .u8 m.kd, .int .u8 m.cd, .int .u8 0, .int .u8 0] 5)) 5 w8.heap.size [m.kd, m.cd, 0, 0] := Blk.new w8 5 [m.kd, m.cd, 0, 0]
    have hOA := OwnB.ofBlk (base := u.heap.size) (n := 4) hka HBA.out hLU.size rfl (by simp only [maxLen]; omega)
    replace hbB := hbB.below' hla hla.size
    replace hLU := Low.trans hLU hla
    refine hK _ _ hLU ?_
    clear hK K
    obtain ⟨gA, hgA⟩ : ∃ g, g = w8.heap.size := ⟨_, rfl⟩
    rw [← hgA] at hOA ⊢
    clear hla hka hgA
    generalize w8.alloc (.cells #[.int .u8 m.kd, .int .u8 m.cd, .int .u8 0, .int .u8 0] 5) = w9 at *
  all_goals
    refine walkS_act rfl (by rfl) (fun K hK => ?_)
    refine wp_append_bs (.tmp 33) (.tmp 36) _ rfl u.heap.size 5 i0 Try.underlying27 hi hz0 hz1 hz2 _ 4 4 _ rfl hOA AB 4 cB _ _ rfl hbB (by omega) hLU.size ?_
    intro A10 r10 w10 hO10 hg10 hx10
    clear hx10
    have hLC : Low u w10 := hLU.grown hg10 hLU.size (fun k hk => (hOA.lt k hk).1)
    refine hK _ _ hLC ?_
    clear hK K hOA hbB hg10 hLU
    replace hO10 : OwnB 5 w10 u.heap.size A10 8 r10 ([m.kd, m.cd, 0, 0] ++ four m.wd) := hO10
    simp only [Act.put, List.setIfInBounds_toArray, List.set_cons_zero, List.set_cons_succ]
    iterate 1 (refine walkS_read (v := _) rfl (by rfl) (by intro y hy; go_simp; try rfl) ?_; simp only [Act.put, List.setIfInBounds_toArray, List.set_cons_zero, List.set_cons_succ])
    unfold walkS
    have cc := (hLC.cell (p := ⟨w.heap.size + 2, 3, none⟩) hlt).trans HC3.out
    have hbm2 := (HM.out.low (hL.trans hLC)).bs
    go_wp2_with (at_builtin; refine wpList_append_bs rfl (.tmp 38) (.tmp 40) _ rfl u.heap.size 5 i0 Try.underlying27 hi hz0 hz1 hz2 _ 8 r10 _ rfl hO10 m.bA m.bm m.bc _ _ rfl hbm2 (by omega) hLC.size ?_; intro A11 r11 w11 hO11 hg11 hx11; refine Hid.out ?_)
    refine Lib.hid ?_
    have hLD : Low u w11 := hLC.grown hg11 hLC.size (fun k hk => (hO10.lt k hk).1)
    obtain ⟨n, hn⟩ : ∃ n, n = 8 + m.bm := ⟨_, rfl⟩
    rw [← hn] at hO11 ⊢
    rw [← HX.out] at hO11
    have hnb : n ≤ 140737488351232 := by omega
    have hn4 : 4 ≤ n := by omega
    clear hx11 hg11 hO10 hLC hn cc hbm2 HX
    generalize flatM m.v = xs at *
    replace HB0 := Lib.hid (HB0.out.below hLD HB0.out.lt)
    replace HB1 := Lib.hid (HB1.out.below hLD HB1.out.lt)
    go_wp2_with (first
      | (with_reducible refine wpList_load_addr rfl (.tmp 3) rfl w.heap.size rfl _ s HB0.out HS.out ?_)
      | (with_reducible refine wpList_load_addr rfl (.tmp 4) rfl (w.heap.size + 1) rfl _ d HB1.out HD.out ?_))
    refine (rcheck_any s d 58 A11 n r11 xs w11 HS.out HD.out VS.out VD.out (by unfold i64ok; omega) hnb (hO11.bs (Nat.le_refl _))).mono ?_
    rintro e w12 ⟨rfl, hl⟩
    rw [← HF.out]
    replace hLD := Low.trans hLD hl
    replace hO11 := hO11.below hl
    clear hl HB0 HB1
    generalize sumM s d m.v = z at *
    go_wp2_with fail
    refine (rtwo_any z w12 (by have := HSR.out; unfold i64ok; omega)).mono ?_
    rintro e w13 ⟨v, rfl, g13, rfl, hg13, hk13, hl13, ha13, hl⟩
    have hO13 := hO11.below hl
    obtain ⟨gb, hgb⟩ := hO13.spot (by omega)
    obtain ⟨e, hgb1, hgb2, hgb3, hgb4, hgb5⟩ := hgb
    have hgb2 : gb < w12.heap.size := by
      have := (hO11.lt gb (by rw [e]; rfl)).2
      exact this
    replace hLD := Low.trans hLD hl
    subst e
    clear hl hl13 ha13 hO11
    have hcap := hO13.cap
    clear hO13
    go_wp2_with fail
    have e0 : w13.cell? ⟨g13, 0, none⟩ = some (.int .u8 (z / 256 % 256)) := hk13.cell 0
    have e1 : w13.cell? ⟨g13, 1, none⟩ = some (.int .u8 (z % 256)) := hk13.cell 1
    have n2 : (2 : Int) < n := by omega
    have n3 : (3 : Int) < n := by omega
    have hne : ∀ (i j : Nat), (⟨gb, i, none⟩ : Addr) ≠ ⟨g13, j, none⟩ := fun i j e => by
      injection e with e
      omega
    refine wp_region_planS (fun y => y.cell? ⟨g13, 0, none⟩ = some (.int .u8 (z / 256 % 256)) ∧ y.cell? ⟨g13, 1, none⟩ = some (.int .u8 (z % 256))) (.rd 0 (.rd 1 (.rd 2 (.rd 3 (.rd 4 (.rd 5 (.rd 6 (.rd 7 (.rd 8 (.act 9 (.rd 10 (.act 11 (.done))))))))))))) (by kernel_rfl) (by kernel_rfl) (fun _ _ d _ _ h => by cases d <;> exact h) (by kernel_rfl) ⟨e0, e1⟩ ?_
    replace e0 : w13.drew.cell? ⟨g13, 0, none⟩ = some (.int .u8 (z / 256 % 256)) := e0
    replace e1 : w13.drew.cell? ⟨g13, 1, none⟩ = some (.int .u8 (z % 256)) := e1
    have q2 : w13.drew.cell? ⟨gb, 2, none⟩ = some (.int .u8 (xs.getD 2 0)) := hgb3 2 (by omega)
    have f2 : w13.drew.frozen? ⟨gb, 2, none⟩ = false := hgb4 2
    have hO14 := hgb5 2 (z / 256 % 256) (by omega) (by omega) (by omega)
    replace hO14 : OwnB 5 (w13.drew.setCell ⟨gb, 2, none⟩ (.int .u8 (z / 256 % 256))) u.heap.size (some ⟨gb, 0, none⟩) n r11 (xs.set 2 (z / 256 % 256)) := hO14
    replace hLD : Low u w13.drew := hLD.trans (Below.drew (Below.refl w13.heap.size w13))
    clear hgb3 hgb4 hgb5 hk13
    generalize w13.drew = w14 at *
    iterate 9 (refine walkS_read (v := _) rfl (by rfl) (by
      intro y hy
      obtain ⟨e0, e1⟩ := hy
      go_simp; try rfl) ?_; simp only [Act.put, List.setIfInBounds_toArray, List.set_cons_zero, List.set_cons_succ])
    refine walkS_act rfl (by rfl) (fun K hK => ?_)
    go_simp
    refine hK _ _ ⟨(World.cell?_setCell_other _ _ _ _ (hne _ _)).trans e0, (World.cell?_setCell_other _ _ _ _ (hne _ _)).trans e1⟩ ?_
    replace e0 := (World.cell?_setCell_other w14 _ _ (.int .u8 (z / 256 % 256)) (hne 2 0)).trans e0
    replace e1 := (World.cell?_setCell_other w14 _ _ (.int .u8 (z / 256 % 256)) (hne 2 1)).trans e1
    clear hK K q2 f2
    replace hLD := hLD.setCell (p := ⟨gb, 2, none⟩) hgb1 (.int .u8 (z / 256 % 256))
    generalize w14.setCell ⟨gb, 2, none⟩ (.int .u8 (z / 256 % 256)) = w15 at *
    obtain ⟨gc, hgc, hgc1, hgc2, hgc3, hgc4, hgc5⟩ := hO14.spot (by omega)
    injection hgc with hgc
    injection hgc with hgc _ _
    subst hgc
    have q3 := hgc3 3 (by omega)
    have f3 := hgc4 3
    have hO16 := hgc5 3 (z % 256) (by omega) (by omega) (by omega)
    iterate 1 (refine walkS_read (v := _) rfl (by rfl) (by intro y hy; go_simp; try rfl) ?_; simp only [Act.put, List.setIfInBounds_toArray, List.set_cons_zero, List.set_cons_succ])
    refine walkS_act rfl (by rfl) (fun K hK => ?_)
    go_simp
    refine hK _ _ ⟨(World.cell?_setCell_other _ _ _ _ (hne _ _)).trans e0, (World.cell?_setCell_other _ _ _ _ (hne _ _)).trans e1⟩ ?_
    clear hK K
    replace hLD := hLD.setCell (p := ⟨gb, 3, none⟩) hgb1 (.int .u8 (z % 256))
    clear q3 f3 e0 e1 hgc3 hgc4 hgc5 hO14
    generalize w15.setCell ⟨gb, 3, none⟩ (.int .u8 (z % 256)) = w16 at *
    unfold walkS
    go_wp2_with fail
    go_ret
    exact GivesY.of HO.out (hO16.bs (Nat.le_refl _)) hcap.1 (by have := hcap.2; simp only [maxLen] at this; omega) (hL.trans hLD)

set_option maxRecDepth 100000 in
set_option maxHeartbeats 3200000 in
theorem ricput_no (s d : List Int) (m : Mg) (w : World) (hok : okM m.v = false) :
    Calls Try.prog 9 #[addrV s, addrV d, msgV m] w (GivesY w (putM s d m.v)) := by
  unfold addrV msgV
  have hL := low2 w s d 23 23
  have HO := Lib.hid (show putM s d m.v = [] by unfold putM; rw [hok]; rfl)
  have hz2' : ((w.alloc (.cells (cellsB s).toArray 23)).alloc (.cells (cellsB d).toArray 23)).heap.size = w.heap.size + 2 := by simp
  have h4 : m.kd < 0 ∨ (¬ m.kd < 0 ∧ 255 < m.kd) ∨ (¬ m.kd < 0 ∧ ¬ 255 < m.kd ∧ m.cd < 0) ∨ (¬ m.kd < 0 ∧ ¬ 255 < m.kd ∧ ¬ m.cd < 0 ∧ 255 < m.cd) := by
    have hn : ¬ ((0 ≤ m.kd ∧ m.kd ≤ 255) ∧ (0 ≤ m.cd ∧ m.cd ≤ 255)) := fun h => by
      have : okM m.v = true := by unfold okM inB; simp; exact h
      rw [hok] at this
      cases this
    omega
  clear hok
  rcases h4 with h | ⟨h, h2⟩ | ⟨h, h2, h3⟩ | ⟨h, h2, h3, h4⟩
  case' inl => have d1 := decide_eq_true h
  case' inr.inl => have d1 := decide_eq_false h; have d2 := decide_eq_true h2
  case' inr.inr.inl => have d1 := decide_eq_false h; have d2 := decide_eq_false h2; have d3 := decide_eq_true h3
  case' inr.inr.inr => have d1 := decide_eq_false h; have d2 := decide_eq_false h2; have d3 := decide_eq_false h3; have d4 := decide_eq_true h4
  all_goals
    clear h
    try clear h2
    try clear h3
    try clear h4
    go_enter Try.func9, Try.ntmps9
    go_wp2_with ((with_reducible refine wpList_box_msg rfl (.tmp 2) rfl m rfl ?_); intro w3 HK hl3 hz3; refine Hid.out ?_)
    refine Lib.hid ?_
    rw [hz2'] at HK
    replace hL := hL.trans hl3
    generalize (w.alloc (.cells (cellsB s).toArray 23)).alloc (.cells (cellsB d).toArray 23) = wx at *
    clear hl3 hz3 hz2'
    obtain ⟨c0, c1, c2, c3⟩ := BlkM.cells HK
    clear HK c2 c3
    go_wp2_with fail
    go_ret
    exact GivesY.of HO.out (Bs.nil _ _ _) (Nat.le_refl _) (by simp) hL
theorem ricput_any (s d : List Int) (m : Mg) (w : World) (hs : s.length = 16) (hd : d.length = 16) (vs : AllB s) (vd : AllB d) (hm : m.ok w w.heap.size) (hbm : m.bm ≤ 140737488347136) :
    Calls Try.prog 9 #[addrV s, addrV d, msgV m] w (GivesY w (putM s d m.v)) := by
  cases h : okM m.v
  · exact ricput_no s d m w h
  · exact ricput_yes s d m w hs hd vs vd hm hbm h
end Go.Proofs.Ytheagbgojdlfaaa
