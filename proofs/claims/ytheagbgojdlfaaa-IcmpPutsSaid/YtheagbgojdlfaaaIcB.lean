/- What icmp.Put answers: the bytes of a message. Conditions: addresses are 16 bytes; the body is at most 2^47 - 8192 bytes long. -/
import Derived.Test.YtheagbgojdlfaaaIcA
import Derived.Test.YtheagbgojdlfaaaCkG
import Derived.Test.YtheagbgojdlfaaaReg2
namespace Go.Proofs.Ytheagbgojdlfaaa
open Go.RowKit
set_option linter.unusedVariables false

/-- can a message be? its bytes with a sum of 0; its bytes -/
def okM (x : Mb) : Bool := inB 0 255 x.kd && inB 0 255 x.cd
def flatM (x : Mb) : List Int := [x.kd, x.cd, 0, 0] ++ four x.wd ++ x.bs
def sumM (s d : List Int) (x : Mb) : Int := nt (chk s d 58 (flatM x))
def putM (s d : List Int) (x : Mb) : List Int := if okM x = true then ((flatM x).set 2 (sumM s d x / 256 % 256)).set 3 (sumM s d x % 256) else []
theorem okM_yes {x : Mb} (h : okM x = true) : (0 ≤ x.kd ∧ x.kd ≤ 255) ∧ (0 ≤ x.cd ∧ x.cd ≤ 255) := by
  unfold okM inB at h
  simpa using h
theorem flatM_len (x : Mb) : (flatM x).length = x.bs.length + 8 := by simp [flatM, four]
theorem flatM_all {x : Mb} (h : okM x = true) (hw : 0 ≤ x.wd ∧ x.wd < 4294967296) (hb : AllB x.bs) : AllB (flatM x) := by
  obtain ⟨h1, h2⟩ := okM_yes h
  exact ((AllB.cons h1.1 (by omega) (.cons h2.1 (by omega) (.cons (by omega) (by omega) (.cons (by omega) (by omega) .nil)))).append (four_all _ hw)).append hb
theorem sumM_range (s d : List Int) (x : Mb) : 0 ≤ sumM s d x ∧ sumM s d x ≤ 65535 := nt_range _

/-- a slice of bytes is handed back, and what its room is -/
def GivesY (w : World) (ys : List Int) (e : Ending) (w' : World) : Prop :=
  ∃ A c, e = .returned (.slice A ys.length c) ∧ Bs w' w'.heap.size A ys.length ys ∧ (ys.length ≤ c ∧ c ≤ 9223372036854775807) ∧ Below w.heap.size w w'
theorem GivesY.of {w w' : World} {ys zs : List Int} {A : Option Addr} {n c : Nat} (hy : ys = zs) (hb : Bs w' w'.heap.size A n zs) (h1 : n ≤ c) (h2 : c ≤ 9223372036854775807) (hB : Below w.heap.size w w') :
    GivesY w ys (.returned (.slice A n c)) w' := by
  subst hy
  obtain rfl := hb.len
  exact ⟨A, c, rfl, hb, ⟨h1, h2⟩, hB⟩
theorem run_bool_not (b : Bool) : (!b) = (if b then false else true) := by cases b <;> rfl

set_option maxRecDepth 100000 in
set_option maxHeartbeats 1600000 in
theorem icput_any (s d : List Int) (m : Mg) (w : World) (hs : s.length = 16) (hd : d.length = 16) (vs : AllB s) (vd : AllB d) (hm : m.ok w w.heap.size) (hbm : m.bm ≤ 140737488347136) :
    Calls Try.prog 8 #[addrV s, addrV d, msgV m] w (GivesY w (putM s d m.v)) := by
  unfold addrV msgV
  have HM := Lib.hid hm
  have HS := Lib.hid hs
  have HD := Lib.hid hd
  have VS := Lib.hid vs
  have VD := Lib.hid vd
  have HB0 := Lib.hid (box_first w s d 23 23)
  have HB1 := Lib.hid (box_second w s d 23 23)
  have hL := low2 w s d 23 23
  have hz2 : ((w.alloc (.cells (cellsB s).toArray 23)).alloc (.cells (cellsB d).toArray 23)).heap.size = w.heap.size + 2 := by simp
  clear hs hd hm vs vd
  go_enter Try.func8, Try.ntmps8
  go_wp2_with ((with_reducible refine wpList_box_msg rfl (.tmp 2) rfl m rfl ?_); intro w3 HK hl3 hz3; refine Hid.out ?_)
  refine Lib.hid ?_
  rw [hz2] at HK hz3
  replace HB0 := Lib.hid (HB0.out.below hl3 HB0.out.lt)
  replace HB1 := Lib.hid (HB1.out.below hl3 HB1.out.lt)
  replace hL := hL.trans hl3
  replace HK := Lib.hid HK
  clear hl3 hz2 hz3
  go_wp2_with fail
  refine (asByte_any w3).mono ?_
  rintro e w4 ⟨rfl, rfl⟩
  unfold spanF
  have c0 := (BlkM.cells HK.out).1
  go_wp2_with fail
  refine (span_has 0 255 m.kd w4).mono ?_
  rintro e w5 ⟨rfl, hB5⟩
  replace HB0 := Lib.hid (HB0.out.below hB5 HB0.out.lt)
  replace HB1 := Lib.hid (HB1.out.below hB5 HB1.out.lt)
  replace HK := Lib.hid (HK.out.below hB5 HK.out.lt)
  replace hL := Low.trans hL hB5
  clear hB5 c0
  cases h1 : inB 0 255 m.kd
  · have HO := Lib.hid (show putM s d m.v = [] by unfold putM okM; rw [show inB 0 255 m.v.kd = false from h1]; rfl)
    clear h1
    go_wp2_with fail
    go_ret
    exact GivesY.of HO.out (Bs.nil _ _ _) (Nat.le_refl _) (by simp) hL
  · have c1 := (BlkM.cells HK.out).2.1
    go_wp2_with fail
    refine (span_has 0 255 m.cd w5).mono ?_
    rintro e w6 ⟨rfl, hB6⟩
    replace HB0 := Lib.hid (HB0.out.below hB6 HB0.out.lt)
    replace HB1 := Lib.hid (HB1.out.below hB6 HB1.out.lt)
    replace HK := Lib.hid (HK.out.below hB6 HK.out.lt)
    replace hL := Low.trans hL hB6
    clear hB6 c1
    cases h2 : inB 0 255 m.cd
    · have HO := Lib.hid (show putM s d m.v = [] by unfold putM okM; rw [show inB 0 255 m.v.kd = true from h1, show inB 0 255 m.v.cd = false from h2]; rfl)
      clear h1 h2
      go_wp2_with fail
      go_ret
      exact GivesY.of HO.out (Bs.nil _ _ _) (Nat.le_refl _) (by simp) hL
    · have hok : okM m.v = true := by unfold okM; rw [show inB 0 255 m.v.kd = true from h1, show inB 0 255 m.v.cd = true from h2]; rfl
      have HO := Lib.hid (show putM s d m.v = ((flatM m.v).set 2 (sumM s d m.v / 256 % 256)).set 3 (sumM s d m.v % 256) by unfold putM; rw [if_pos hok])
      have HX := Lib.hid (show flatM m.v = [m.kd, m.cd, 0, 0] ++ four m.wd ++ m.bs from rfl)
      have HF := Lib.hid (show sumM s d m.v = nt (chk s d 58 (flatM m.v)) from rfl)
      have HSR := Lib.hid (sumM_range s d m.v)
      obtain ⟨r1, r2⟩ := okM_yes hok
      replace r1 : 0 ≤ m.kd ∧ m.kd ≤ 255 := r1
      replace r2 : 0 ≤ m.cd ∧ m.cd ≤ 255 := r2
      have hba : AllB [m.kd, m.cd, 0, 0] := AllB.cons r1.1 (by omega) (.cons r2.1 (by omega) (.cons (by omega) (by omega) (.cons (by omega) (by omega) .nil)))
      have HBA := Lib.hid hba
      clear h1 h2 hok hba
      go_wp2_with fail
      refine wp_region_plan (.rd 0 (.rd 1 (.rd 2 (.rd 3 (.rd 4 (.rd 5 (.rd 7 (.rd 8 (.rd 10 (.rd 11 (.fork 6 (.act 9 (.act 12 (.act 13 (.rd 14 (.done))))) 9 (.act 6 (.act 12 (.act 13 (.rd 14 (.done)))))))))))))))) (by kernel_rfl) (by kernel_rfl) (fun _ _ d _ _ h => by cases d <;> exact h) (by kernel_rfl) ?_
      replace hL := hL.trans (Below.drew (Below.refl w6.heap.size w6))
      replace HB0 : Hid (Blk w6.drew 23 w.heap.size s) := HB0
      replace HB1 : Hid (Blk w6.drew 23 (w.heap.size + 1) d) := HB1
      replace HK : Hid (BlkM w6.drew (w.heap.size + 2) m) := HK
      generalize w6.drew = w7 at *
      obtain ⟨c0, c1, c2, c3⟩ := BlkM.cells HK.out
      have hlt := HK.out.lt
      have k1 : IntKind.u8.wrap m.kd = m.kd := by simp [IntKind.wrap, IntKind.bits, IntKind.signed]; omega
      have k2 : IntKind.u8.wrap m.cd = m.cd := by simp [IntKind.wrap, IntKind.bits, IntKind.signed]; omega
      clear r1 r2
      iterate 10 (refine walkP_read (v := _) rfl (by rfl) (by
        intro y hy
        have e0 := (hy.cell (p := ⟨w.heap.size + 2, 0, none⟩) hlt).trans c0; have e1 := (hy.cell (p := ⟨w.heap.size + 2, 1, none⟩) hlt).trans c1; have e2 := (hy.cell (p := ⟨w.heap.size + 2, 2, none⟩) hlt).trans c2; have e3 := (hy.cell (p := ⟨w.heap.size + 2, 3, none⟩) hlt).trans c3
        go_simp; try rfl) ?_; simp only [Act.put, List.setIfInBounds_toArray, List.set_cons_zero, List.set_cons_succ])
      clear c0 c1 c2 c3 hlt k1 k2
      refine walkP_fork ?fa ?fb
      case' fa =>
        refine walkP_act rfl (by rfl) (fun K hK => ?_)
        go_simp
        have hla := Low.alloc w7 (.cells #[.int .u8 m.kd, .int .u8 m.cd, .int .u8 0, .int .u8 0] 5)
        refine hK _ _ hla ?_
        clear hK K
        have hka : Blk (w7.alloc (.cells #[.int .u8 m.kd, .int .u8 m.cd, .int .u8 0, .int .u8 0] 5)) 5 w7.heap.size [m.kd, m.cd, 0, 0] := Blk.new w7 5 [m.kd, m.cd, 0, 0]
        have hbA := hka.bs HBA.out hka.lt rfl
        replace HB0 := Lib.hid (HB0.out.below hla HB0.out.lt)
        replace HB1 := Lib.hid (HB1.out.below hla HB1.out.lt)
        replace HK := Lib.hid (HK.out.below hla HK.out.lt)
        replace hL := Low.trans hL hla
        obtain ⟨gA, hgA⟩ : ∃ g, g = w7.heap.size := ⟨_, rfl⟩
        rw [← hgA] at hbA ⊢
        clear hla hka hgA
        generalize w7.alloc (.cells #[.int .u8 m.kd, .int .u8 m.cd, .int .u8 0, .int .u8 0] 5) = w8 at *
        refine walkP_act rfl (by rfl) (fun K hK => ?_)
        go_simp
        refine (put32_any none 0 0 m.wd [] w8 (by omega) HM.out.wd (Bs.nil _ _ _)).mono ?_
        rintro e w9 ⟨v, rfl, gB, rfl, hgB, hkB, hlB, haB, hl⟩
        go_simp
        refine hK _ _ hl ?_
        clear hK K
        have hbB : Bs w9 w9.heap.size (some ⟨gB, 0, none⟩) 4 (four m.wd) := hkB.bs haB hkB.lt hlB
        replace HB0 := Lib.hid (HB0.out.below hl HB0.out.lt)
        replace HB1 := Lib.hid (HB1.out.below hl HB1.out.lt)
        replace HK := Lib.hid (HK.out.below hl HK.out.lt)
        replace hL := Low.trans hL hl
        replace hbA := hbA.below' hl hl.size
        clear hl hkB haB hlB hgB
      case' fb =>
        refine walkP_act rfl (by rfl) (fun K hK => ?_)
        go_simp
        refine (put32_any none 0 0 m.wd [] w7 (by omega) HM.out.wd (Bs.nil _ _ _)).mono ?_
        rintro e w8 ⟨v, rfl, gB, rfl, hgB, hkB, hlB, haB, hl⟩
        go_simp
        refine hK _ _ hl ?_
        clear hK K
        have hbB : Bs w8 w8.heap.size (some ⟨gB, 0, none⟩) 4 (four m.wd) := hkB.bs haB hkB.lt hlB
        replace HB0 := Lib.hid (HB0.out.below hl HB0.out.lt)
        replace HB1 := Lib.hid (HB1.out.below hl HB1.out.lt)
        replace HK := Lib.hid (HK.out.below hl HK.out.lt)
        replace hL := Low.trans hL hl
        clear hl hkB haB hlB hgB
        refine walkP_act rfl (by rfl) (fun K hK => ?_)
        go_simp
        have hla := Low.alloc w8 (.cells #[.int .u8 m.kd, .int .u8 m.cd, .int .u8 0, .int .u8 0] 5)
        refine hK _ _ hla ?_
        clear hK K
        have hka : Blk (w8.alloc (.cells #[.int .u8 m.kd, .int .u8 m.cd, .int .u8 0, .int .u8 0] 5)) 5 w8.heap.size [m.kd, m.cd, 0, 0] := Blk.new w8 5 [m.kd, m.cd, 0, 0]
        have hbA := hka.bs HBA.out hka.lt rfl
        replace HB0 := Lib.hid (HB0.out.below hla HB0.out.lt)
        replace HB1 := Lib.hid (HB1.out.below hla HB1.out.lt)
        replace HK := Lib.hid (HK.out.below hla HK.out.lt)
        replace hL := Low.trans hL hla
        replace hbB := hbB.below' hla hla.size
        obtain ⟨gA, hgA⟩ : ∃ g, g = w8.heap.size := ⟨_, rfl⟩
        rw [← hgA] at hbA ⊢
        clear hla hka hgA
        generalize w8.alloc (.cells #[.int .u8 m.kd, .int .u8 m.cd, .int .u8 0, .int .u8 0] 5) = w9 at *
      all_goals
        refine walkP_act rfl (by rfl) (fun K hK => ?_)
        go_simp
        have hla := Low.alloc w9 (.cells #[.slice (some ⟨gA, 0, none⟩) 4 4, .slice (some ⟨gB, 0, none⟩) 4 4, .slice m.bA m.bm m.bc] 27)
        refine hK _ _ hla ?_
        clear hK K
        have hrow : (w9.alloc (.cells #[.slice (some ⟨gA, 0, none⟩) 4 4, .slice (some ⟨gB, 0, none⟩) 4 4, .slice m.bA m.bm m.bc] 27)).heap[w9.heap.size]? = some (.cells #[.slice (some ⟨gA, 0, none⟩) 4 4, .slice (some ⟨gB, 0, none⟩) 4 4, .slice m.bA m.bm m.bc] 27) := heap_alloc_new w9 _
        replace HB0 := Lib.hid (HB0.out.below hla HB0.out.lt)
        replace HB1 := Lib.hid (HB1.out.below hla HB1.out.lt)
        replace hL := Low.trans hL hla
        replace hbA := hbA.below' hla hla.size
        replace hbB := hbB.below' hla hla.size
        have hbm2 := (HM.out.low hL).bs
        obtain ⟨gR, hgR⟩ : ∃ g, g = w9.heap.size := ⟨_, rfl⟩
        rw [← hgR] at hrow ⊢
        clear hla hgR HK
        generalize w9.alloc (.cells #[.slice (some ⟨gA, 0, none⟩) 4 4, .slice (some ⟨gB, 0, none⟩) 4 4, .slice m.bA m.bm m.bc] 27) = w10 at *
        refine walkP_act rfl (by rfl) (fun K hK => ?_)
        go_simp
        refine (join3 (some ⟨gA, 0, none⟩) (some ⟨gB, 0, none⟩) m.bA 4 4 4 4 m.bm m.bc gR 27 [m.kd, m.cd, 0, 0] (four m.wd) m.bs w10 (by omega) hrow hbA hbB hbm2).mono ?_
        rintro e w11 ⟨v, rfl, g, rfl, hg, hk, hl11, ha11, hl⟩
        go_simp
        refine hK _ _ hl ?_
        clear hK K hrow hbA hbB hbm2
        have hb11 := hk.bs ha11 hk.lt hl11
        replace HB0 := Lib.hid (HB0.out.below hl HB0.out.lt)
        replace HB1 := Lib.hid (HB1.out.below hl HB1.out.lt)
        replace hL := Low.trans hL hl
        obtain ⟨n, hn⟩ : ∃ n, n = 4 + 4 + m.bm := ⟨_, rfl⟩
        rw [← hn] at hb11 ⊢
        rw [← HX.out] at hb11
        have hnb : n ≤ 140737488355328 := by omega
        have hn4 : 4 ≤ n := by omega
        clear hk ha11 hl11 hg hl hn
        generalize flatM m.v = xs at *
        iterate 1 (refine walkP_read (v := _) rfl (by rfl) (by intro y hy; go_simp; try rfl) ?_; simp only [Act.put, List.setIfInBounds_toArray, List.set_cons_zero, List.set_cons_succ])
        unfold walkP
        go_wp2_with (first
          | (with_reducible refine wpList_load_addr rfl (.tmp 3) rfl w.heap.size rfl _ s HB0.out HS.out ?_)
          | (with_reducible refine wpList_load_addr rfl (.tmp 4) rfl (w.heap.size + 1) rfl _ d HB1.out HD.out ?_))
        refine (check_any s d 58 (some ⟨g, 0, none⟩) n n xs w11 HS.out HD.out VS.out VD.out (by unfold i64ok; omega) hnb hb11).mono ?_
        rintro e w12 ⟨rfl, hl⟩
        rw [← HF.out]
        replace hL := Low.trans hL hl
        replace hb11 := hb11.below' hl hl.size
        clear hl HB0 HB1
        generalize sumM s d m.v = z at *
        go_wp2_with fail
        refine (set16_yes (some ⟨g, 0, none⟩) n n 2 2 z xs w12 hnb (by have := HSR.out; unfold i64ok; omega) hb11 rfl (by omega)).mono ?_
        rintro e w13 ⟨v, rfl, g13, rfl, hg, hk, hl13, ha13, hl⟩
        have hb13 := hk.bs ha13 hk.lt hl13
        replace hL := Low.trans hL hl
        clear hl hk ha13 hl13 hg hb11
        go_wp2_with fail
        go_ret
        exact GivesY.of HO.out hb13 (Nat.le_refl _) (by omega) hL
end Go.Proofs.Ytheagbgojdlfaaa
