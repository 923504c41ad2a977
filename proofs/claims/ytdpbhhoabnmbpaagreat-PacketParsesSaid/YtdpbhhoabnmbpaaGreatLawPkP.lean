/- The walk of harrierlaw13.PacketParses: it answers true, where the program's own functions tell what the page says. Conditions: these, and at most 2^47 bytes. -/
import Derived.Test.YtdpbhhoabnmbpaaGreatPkK
import Derived.Test.YtdpbhhoabnmbpaaGreatJReg
set_option maxRecDepth 100000
namespace Go.Proofs.YtdpbhhoabnmbpaaGreat
open Go.RowKit
set_option linter.unusedVariables false

theorem exec_load_pq {T : TypeId} (hT : PkT T) {f : Operand → Value} {dd : Option Tmp} {x : Operand} {ty : TypeId} {pos : String} {gd : Option (Nat × Bool)} {w : World} {g : Nat} {p : Pq} (hx : f x = .pointer (some ⟨g, 0, none⟩)) (hb : BlkQ T w g p) (hs : p.h.s.length = 16) (hd : p.h.d.length = 16) (hf : p.f.length = 16) :
    (execOp f ⟨dd, .load T x, ty, pos, #[], gd⟩).run Tryz.prog w = .ok (.value (.agg (pqC p).toArray)) w := by
  obtain ⟨fs, hu⟩ := hT.und
  unfold execOp
  simp only [hx, Instr.loadAt, Instr.sureAddr, Sem.run_bind, Sem.run_pure, Result.andThen_ok, run_loadVar_row w g T T (pqC p).toArray _ _ hb hu rfl (by rw [hT.size]; simp [pqC_len hs hd hf])]
/-- errors are small numbers -/
def LowE (e : Int) : Prop := 0 ≤ e ∧ e ≤ 20
theorem LowE.k {e : Int} (h0 : 0 ≤ e) (h1 : e ≤ 20) : LowE e := ⟨h0, h1⟩
theorem takeO_low (xs : List Int) : LowE (takeO xs).2.2 := by
  unfold takeO
  repeat' split
  all_goals exact .k (by simp) (by simp)
theorem parseO_low : ∀ (f : Nat) (xs : List Int), LowE (parseO f xs).2
  | 0, xs => by unfold parseO; exact .k (by simp) (by simp)
  | f + 1, xs => by
    have ih := parseO_low f (xs.drop (takeO xs).2.1)
    have it := takeO_low xs
    unfold parseO joinO
    repeat' split
    all_goals first | assumption | exact .k (by simp) (by simp)
theorem parseL_low (xs : List Int) : LowE (parseL xs).2 := by
  have h := parseO_low 41 xs
  unfold parseL
  repeat' split
  all_goals first | assumption | exact .k (by simp) (by simp)
theorem parseS_low (xs : List Int) : LowE (parseS xs).2 := by
  have h := parseL_low ((xs.take (aheadS xs).1).drop 20)
  have h2 : LowE (aheadS xs).2 := by (unfold aheadS; (repeat' split) <;> exact .k (by simp) (by simp))
  unfold parseS
  repeat' split
  all_goals first | assumption | exact .k (by simp) (by simp)
theorem errR_low (xs : List Int) : LowE (errR xs) := by
  have h : LowE (partsR xs).2 := by
    unfold partsR parseTL
    rcases parseT_err (((xs.take (wideR xs)).drop (fromR xs)).length + 1) ((xs.take (wideR xs)).drop (fromR xs)) with e | ⟨e, -⟩
    · rw [e]; exact .k (by omega) (by omega)
    · rw [e]; exact .k (by omega) (by omega)
  have h2 : LowE (aheadR xs) := by (unfold aheadR; (repeat' split) <;> exact .k (by simp) (by simp))
  unfold errR
  split
  · exact h
  · exact h2
theorem preE_low (xs : List Int) : LowE (preE xs) := by
  have h1 : LowE (getE xs) := by (unfold getE; (repeat' split) <;> exact .k (by simp) (by simp))
  have h2 : LowE (pkW xs).2 := by
    have h := walkL_err xs (getL xs).nx 40
    unfold pkW LowE
    omega
  have h3 : LowE (rtErr xs (pkW xs).1 (getL xs).d) := by
    have h := errR_low (xs.drop 40)
    unfold rtErr
    repeat' split
    all_goals first | assumption | exact .k (by simp) (by simp)
  unfold preE
  repeat' split
  all_goals first | assumption | exact .k (by simp) (by simp)
theorem upE_low (s f : List Int) (k : Int) (bs : List Int) : LowE (upE s f k bs) := by
  have h := parseS_low bs
  have h2 : LowE (parseE s f bs) := by (unfold parseE; (repeat' split) <;> exact .k (by simp) (by simp))
  unfold upE
  repeat' split
  all_goals first | assumption | exact .k (by simp) (by simp)
theorem pkE_low (xs : List Int) : LowE (pkE xs) := by
  unfold pkE
  split
  · exact upE_low _ _ _ _
  · exact preE_low xs
theorem pkE_ok (xs : List Int) : i64ok (pkE xs) := by
  have h := pkE_low xs
  unfold LowE at h
  unfold i64ok
  omega

set_option maxRecDepth 100000 in
set_option maxHeartbeats 3200000 in
theorem pkp_walk (hT : PktTcps) (hP : PktParses) (hR : PktReasons) (A : Option Addr) (n c : Nat) (xs : List Int) (w : World) (hn : n ≤ 140737488351232) (hc : n ≤ c) (hc2 : c ≤ 9223372036854775807) (hb : Bs w w.heap.size A n xs) :
    Calls Tryz.prog 3 #[.slice A n c] w fun e w' => e = .returned (.bool true) ∧ Below w.heap.size w w' := by
  have HT := Lib.hid hT
  have HP := Lib.hid hP
  have HR := Lib.hid hR
  have HB := Lib.hid hb
  clear hT hP hR hb
  go_enter Tryz.func3, Tryz.ntmps3
  go_wp2_with fail
  refine (HP.out A n c xs w hn hc hc2 HB.out).mono ?_
  intro e w1 hq
  obtain ⟨p, rfl, hpv, hpk, hB1, l1, l2, l3⟩ := hq.lens
  have HPV := Lib.hid hpv
  have HPK := Lib.hid hpk
  have L1 := Lib.hid l1
  have L2 := Lib.hid l2
  have L3 := Lib.hid l3
  have hL : Low w w1 := hB1
  replace HB := Lib.hid (HB.out.below' hL hL.size)
  obtain ⟨er, her⟩ : ∃ er, er = pkE xs := ⟨_, rfl⟩
  rw [← her]
  have HER := Lib.hid her
  clear hq hpv hpk hB1 l1 l2 l3 her
  unfold pqV
  go_wp2_with ((with_reducible refine wpList_alloc_pq pkt_own rfl rfl ?_); intro w2 HZ hl2 hz2; refine Hid.out ?_)
  refine Lib.hid ?_
  go_wp2_with ((refine wpList_store_pq pkt_own rfl (.tmp 3) (.tmp 10) rfl w1.heap.size rfl p rfl zeroQ HZ rfl rfl rfl L1.out L2.out L3.out ?_); intro w3 HG1 hb3 hz3 ho3; refine Hid.out ?_)
  refine Lib.hid ?_
  have hl3 : Low w1 w3 := Below.trans hl2 hb3
  replace hL := hL.trans hl3
  replace HB := Lib.hid (HB.out.below' hl3 hl3.size)
  replace HPK := Lib.hid (HPK.out.low hl3)
  replace HG1 := Lib.hid HG1
  obtain ⟨g1, hg1⟩ : ∃ g, g = w1.heap.size := ⟨_, rfl⟩
  rw [← hg1] at HG1 ⊢
  clear HZ hl2 hb3 hz2 hz3 ho3 hl3 hg1
  go_wp2_with fail
  refine (rpkparse_any A n c xs w3 hn hc hc2 HB.out).mono ?_
  intro e w4 hq
  obtain ⟨q, rfl, hqv, hqk, hB4, m1, m2, m3⟩ := hq.lens
  rw [← HER.out]
  have HQV := Lib.hid hqv
  have HQK := Lib.hid hqk
  have M1 := Lib.hid m1
  have M2 := Lib.hid m2
  have M3 := Lib.hid m3
  have hl4 : Low w3 w4 := hB4
  replace hL := hL.trans hl4
  replace HPK := Lib.hid (HPK.out.low hl4)
  have hlt1 := HG1.out.lt
  replace HG1 := Lib.hid (HG1.out.below hl4 HG1.out.lt)
  have hlt2 := HG1.out.lt
  clear hq hqv hqk hB4 m1 m2 m3 HB hl4
  unfold pqV
  go_wp2_with ((with_reducible refine wpList_alloc_pq pkt_ref rfl rfl ?_); intro w5 HZ hl5 hz5; refine Hid.out ?_)
  refine Lib.hid ?_
  go_wp2_with ((refine wpList_store_pq pkt_ref rfl (.tmp 5) (.tmp 15) rfl w4.heap.size rfl q rfl zeroQ HZ rfl rfl rfl M1.out M2.out M3.out ?_); intro w6 HG2 hb6 hz6 ho6; refine Hid.out ?_)
  refine Lib.hid ?_
  have hl6 : Low w4 w6 := Below.trans hl5 hb6
  replace hL := hL.trans hl6
  replace HPK := Lib.hid (HPK.out.low hl6)
  replace HQK := Lib.hid (HQK.out.low hl6)
  replace HG1 := Lib.hid (HG1.out.below hl6 hlt2)
  replace HG2 := Lib.hid HG2
  obtain ⟨g2, hg2⟩ : ∃ g, g = w4.heap.size := ⟨_, rfl⟩
  rw [← hg2] at HG2 ⊢
  clear HZ hl5 hb6 hz5 hz6 ho6 hl6 hg2 hlt1 hlt2
  go_wp2_with fail
  refine wp_region_plan (.rd 0 (.rd 1 (.rd 2 (.rd 3 (.rd 4 (.rd 6 (.act 5 (.act 7 (.rd 8 (.rd 9 (.rd 10 (.rd 12 (.act 11 (.act 13 (.rd 14 (.rd 15 (.rd 16 (.act 17 (.rd 18 (.rd 19 (.done))))))))))))))))))))) (by kernel_rfl) (by kernel_rfl) (fun _ _ d _ _ h => by cases d <;> exact h) (by kernel_rfl) ?_
  have hlD : Low w6 w6.drew := Below.drew (Below.refl w6.heap.size w6)
  replace hL := hL.trans hlD
  replace HPK := Lib.hid (HPK.out.low hlD)
  replace HQK := Lib.hid (HQK.out.low hlD)
  replace HG1 := Lib.hid (HG1.out.below hlD HG1.out.lt)
  replace HG2 := Lib.hid (HG2.out.below hlD HG2.out.lt)
  clear hlD
  generalize w6.drew = w7 at *
  iterate 6 (refine walkP_read (v := _) rfl (by rfl) (by
    intro y hy
    first
      | exact exec_load_pq pkt_own rfl (HG1.out.below hy HG1.out.lt) L1.out L2.out L3.out
      | exact exec_load_pq pkt_ref rfl (HG2.out.below hy HG2.out.lt) M1.out M2.out M3.out
      | (go_simp; try rfl)) ?_; simp only [Act.put, List.setIfInBounds_toArray, List.set_cons_zero, List.set_cons_succ])
  clear HG1 HG2
  refine walkP_act rfl (by rfl) (fun K hK => ?_)
  go_simp
  refine (ref13_any p w7 L1.out L2.out L3.out).mono ?_
  rintro e w8 ⟨rfl, hl⟩
  go_simp
  refine hK _ _ hl ?_
  clear hK K
  replace hL := hL.trans hl
  replace HPK := Lib.hid (HPK.out.low hl)
  replace HQK := Lib.hid (HQK.out.low hl)
  clear hl
  refine walkP_act rfl (by rfl) (fun K hK => ?_)
  unfold pqV
  go_simp
  refine (pqsame_eq p q w8 HPK.out HQK.out (HPV.out.trans HQV.out.symm)).mono ?_
  rintro e w9 ⟨rfl, hl⟩
  go_simp
  refine hK _ _ hl ?_
  clear hK K
  replace hL := hL.trans hl
  clear hl HPK HQK
  iterate 4 (refine walkP_read (v := _) rfl (by rfl) (by intro y hy; go_simp; try rfl) ?_; simp only [Act.put, List.setIfInBounds_toArray, List.set_cons_zero, List.set_cons_succ])
  have HEO := Lib.hid (show i64ok er by rw [HER.out]; exact pkE_ok xs)
  refine walkP_act rfl (by rfl) (fun K hK => ?_)
  go_simp
  refine (HR.out er w9 HEO.out).mono ?_
  rintro e w10 ⟨rfl, hl⟩
  go_simp
  refine hK _ _ hl ?_
  clear hK K
  replace hL := hL.trans hl
  clear hl
  refine walkP_act rfl (by rfl) (fun K hK => ?_)
  go_simp
  refine (rreason_any er w10 HEO.out).mono ?_
  rintro e w11 ⟨rfl, hl⟩
  go_simp
  refine hK _ _ hl ?_
  clear hK K
  replace hL := hL.trans hl
  clear hl
  iterate 3 (refine walkP_read (v := _) rfl (by rfl) (by intro y hy; go_simp; try rfl) ?_; simp only [Act.put, List.setIfInBounds_toArray, List.set_cons_zero, List.set_cons_succ])
  refine walkP_act rfl (by rfl) (fun K hK => ?_)
  go_simp
  refine (pklives_any HT.out HP.out HR.out w11).mono ?_
  rintro e w12 ⟨rfl, hl⟩
  go_simp
  refine hK _ _ hl ?_
  clear hK K
  replace hL := hL.trans hl
  clear hl
  iterate 2 (refine walkP_read (v := _) rfl (by rfl) (by intro y hy; go_simp; try rfl) ?_; simp only [Act.put, List.setIfInBounds_toArray, List.set_cons_zero, List.set_cons_succ])
  unfold walkP
  go_wp2
  go_ret
  exact ⟨rfl, hL⟩
end Go.Proofs.YtdpbhhoabnmbpaaGreat
