/- Stage 20: the walk of HistoryPlays, given the program's own history. Conditions: each argument lies as the form says. -/
import Derived.Test.YtedldebomoplmaaHiF
set_option maxRecDepth 100000
namespace Go.Proofs.Ytedldebomoplmaa
open Go.RowKit
set_option linter.unusedVariables false

/-- a push as it lies: at which tick, and a table -/
structure Pd where
  now : Int
  A : Option Addr
  k : Nat
  c : Nat
  t : List Int
def zeroPd : Pd := ⟨0, none, 0, 0, []⟩
def stepE : Elt Pd := ⟨fun x => [.int .i64 x.now, .slice x.A x.k x.c], fun x => i64ok x.now, 2, by decide, fun _ _ => rfl, fun a u hu => by
  simp only [List.mem_cons, List.not_mem_nil, or_false] at hu
  rcases hu with rfl | rfl <;> rfl, zeroPd, by unfold i64ok zeroPd; simp⟩
/-- pushes in a slice, with their tables, below block B -/
structure Sts (w : World) (B : Nat) (A : Option Addr) (n : Nat) (l : List Pd) : Prop where
  row : Es stepE w B A n l
  tab : ∀ x ∈ l, Ns w B x.A x.k x.t ∧ x.k ≤ x.c ∧ x.k ≤ 17592186044416
theorem Sts.at_ {w : World} {B : Nat} {A : Option Addr} {n : Nat} {l : List Pd} (h : Sts w B A n l) {i : Nat} (hi : i < n) : ∃ b o, A = some ⟨b, o, none⟩ ∧ b < B ∧ w.cell? ⟨b, o + i * 2, none⟩ = some (.int .i64 (l.getD i zeroPd).now) ∧ w.cell? ⟨b, o + i * 2 + 1, none⟩ = some (.slice (l.getD i zeroPd).A (l.getD i zeroPd).k (l.getD i zeroPd).c) ∧
    Ns w B (l.getD i zeroPd).A (l.getD i zeroPd).k (l.getD i zeroPd).t ∧ (l.getD i zeroPd).k ≤ (l.getD i zeroPd).c ∧ (l.getD i zeroPd).k ≤ 17592186044416 ∧ i64ok (l.getD i zeroPd).now := by
  have hl := h.row.len
  have hm : l.getD i zeroPd ∈ l := by
    have e : l.getD i zeroPd = l[i]'(by omega) := by simp [List.getD, show i < l.length by omega]
    rw [e]
    exact List.getElem_mem _
  obtain ⟨b, o, rfl, hb, _⟩ := h.row.mem (by omega)
  have h1 := (h.row.at_ hi).2
  exact ⟨b, o, rfl, hb, h1 0 _ rfl, h1 1 _ rfl, (h.tab _ hm).1, (h.tab _ hm).2.1, (h.tab _ hm).2.2, h.row.all _ hm⟩

theorem Vs.more {F : Nat → Prop} {m m' n : Nat} {w : World} {A : Option Addr} {l : List Vd} (h : Vs F m w A n l) (hm : m ≤ m') : Vs F m' w A n l := ⟨h.row, h.off, fun x hx => ⟨(h.tab x hx).1, (h.tab x hx).2.1, (h.tab x hx).2.2.1, Nat.le_trans (h.tab x hx).2.2.2 hm⟩⟩
theorem RightH.next {l : List Vb} {last now : Int} (h : RightH l last) (t : List Int) (hn : now ≤ 9223372036854775807) : RightH (nextH l last now t) (lastH last (mayH l now)) := by
  unfold nextH lastH
  by_cases e : mayH l now = 0
  · rw [if_pos e, if_pos e]
    exact h.push t e hn
  · rw [if_neg e, if_neg e]
    exact h
theorem lastH_le {last er : Int} {i : Nat} (h : last ≤ i) : lastH last er ≤ ((i + 1 : Nat) : Int) := by
  unfold lastH
  split <;> omega
theorem two_same (a b : Int) (w : World) : (Op.equalIn 10000 46 (.agg #[.int .i64 a, .int .i64 b]) (.agg #[.int .i64 a, .int .i64 b])).run Try.prog w = .ok true w := by
  obtain ⟨i0, h1, _, h2, _⟩ := info_int_partsP
  have h := run_equalIn_ints (P := Try.prog) w .i64 9998 46 3 2 i0 Try.underlying46 Try.underlying3 h1 h2 [a, b] [a, b] rfl rfl
  simpa using h
theorem two_size : (Try.prog.info? 46).map (·.size) = some 2 := by kernel_rfl
theorem exec_load_midH {P : Program} {f : Operand → Value} {dd : Option Tmp} {x : Operand} {ty ty2 : TypeId} {pos : String} {gd : Option (Nat × Bool)} {w : World} {b p : Nat} {cs : List Value} {d : TypeDesc} (hx : f x = .pointer (some ⟨b, p, none⟩)) (hc : w.rangeAt b p cs)
    (hu : P.underlying ty = some d) (hd : d.isRow = true) (hi : (P.info? ty).map (·.size) = some cs.length) :
    (execOp f ⟨dd, .load ty x, ty2, pos, #[], gd⟩).run P w = .ok (.value (.agg cs.toArray)) w := by
  unfold execOp
  simp only [hx, Instr.loadAt, Instr.sureAddr, Sem.run_bind, Sem.run_pure, Result.andThen_ok, run_loadVar_mid w b p ty cs d hc hu hd hi]
theorem rangeAt_belowH {w w' : World} {B b p : Nat} {cs : List Value} (h : w.rangeAt b p cs) (hb : Below B w w') (hlt : b < B) : w'.rangeAt b p cs := fun j v hv => (hb.cell (p := ⟨b, p + j, none⟩) hlt).trans (h j v hv)

set_option maxHeartbeats 6400000 in
set_option maxRecDepth 100000 in
theorem hip_walk (O : HiObj) (A : Option Addr) (n c : Nat) (l : List Pd) (H : Nat) (w : World) (hn : n ≤ 140737488355328) (hH : H < 18446744073709551616) (ha : Sts w w.heap.size A n l) :
    Calls Try.prog 3 #[.slice A n c, .int .u64 H] w fun e w' => e = .returned (.bool true) ∧ Low w w' := by
  have HS := Lib.hid ha
  have HH := Lib.hid hH
  have HLV := Lib.hid fun u => hilives_any O u
  clear ha hH
  go_enter Try.func3, Try.ntmps3
  go_wp2_with fail
  refine (O.new w).mono ?_
  rintro e w1 ⟨g, F0, rfl, hR, hF, hl⟩
  have HR := Lib.hid hR
  have HF := Lib.hid hF
  have HL := Lib.hid (show Below w.heap.size w w1 from hl)
  clear hR hF hl
  go_wp2_with fail
  go_loopw [6, 7, 8] (fun v6 v7 v8 wr => ∃ (i q : Nat) (D : Option Addr) (e : Nat) (L : List Vd) (last : Int) (F : Nat → Prop), i ≤ n ∧ i ≤ 40 ∧ v8 = .int .i64 i ∧ v6 = .slice D q e ∧ v7 = .int .i64 last ∧ Hid (q ≤ e) ∧ last ≤ (i : Int) ∧
    Hid (RightH (L.map Vd.v) last) ∧ Hid (O.R wr (.pointer (some ⟨g, 0, none⟩)) F (L.map Vd.v) last) ∧ Hid (∀ k, F k → w.heap.size ≤ k) ∧ Hid (Vs F 100 wr D q L) ∧ Hid (Below w.heap.size w wr)) (fun _ _ v _ => 40 - (intOf v).toNat)
  case atStart => exact ⟨0, 0, none, 0, [], 0, F0, by omega, by omega, rfl, rfl, rfl, Lib.hid (Nat.le_refl _), by omega, Lib.hid RightH.nil, HR, HF, Lib.hid (Vs.nil _ _ _ _), HL⟩
  case round =>
    clear HR HF HL
    obtain ⟨i, q, D, e, L, last, F, hi, hi40, rfl, rfl, rfl, HQE, hla, HRT, HR, HF, HV, HL⟩ := hrel
    by_cases hlt : i < n
    · have hlt2 : (i : Int) < n := by omega
      by_cases h40 : i < 40
      · have h402 : (i : Int) < 40 := by omega
        obtain ⟨b0, o0, rfl, hb0, x0, x1, hT, hkc, hk44, hnow⟩ := HS.out.at_ hlt
        generalize l.getD i zeroPd = x at *
        obtain ⟨now, tA, tk, tc, t⟩ := x
        dsimp only at x0 x1 hT hkc hk44 hnow
        have c0 := (HL.out.cell (p := ⟨b0, o0 + i * 2, none⟩) hb0).trans x0
        have c1 := (HL.out.cell (p := ⟨b0, o0 + i * 2 + 1, none⟩) hb0).trans x1
        have HT := Lib.hid hT
        clear hT
        by_cases h100 : 100 < tk
        · have g1 : (100 : Int) < tk := by omega
          go_wp2_with fail
          refine (HLV.out wr).mono ?_
          rintro e w2 ⟨rfl, hl⟩
          go_wp2_with fail
          go_ret
          exact ⟨rfl, HL.out.trans (hl.mono HL.out.size)⟩
        · have g1 : ¬ (100 : Int) < tk := by omega
          obtain ⟨wo, rfl⟩ : ∃ wo, wo = wr := ⟨_, rfl⟩
          go_wp2_with fail
          refine (O.free now HR.out HRT.out (by omega) hnow).mono ?_
          rintro e1 w2 ⟨rfl, hl⟩
          replace HR := Lib.hid (O.low HR.out hl)
          replace HV := Lib.hid (HV.out.low hl)
          replace HL := Lib.hid (show Below w.heap.size w w2 from HL.out.trans (hl.mono HL.out.size))
          replace c0 := (HL.out.cell (p := ⟨b0, o0 + i * 2, none⟩) hb0).trans x0
          replace c1 := (HL.out.cell (p := ⟨b0, o0 + i * 2 + 1, none⟩) hb0).trans x1
          clear hl
          go_wp2_with fail
          refine wp_region_planS (fun y => y.cell? ⟨b0, o0 + i * 2, none⟩ = some (.int .i64 now) ∧ y.cell? ⟨b0, o0 + i * 2 + 1, none⟩ = some (.slice tA tk tc)) (.rd 0 (.rd 1 (.rd 2 (.rd 3 (.rd 4 (.rd 5 (.rd 6 (.rd 7 (.rd 8 (.rd 9 (.rd 10 (.act 11 (.rd 12 (.done))))))))))))))
            (by kernel_rfl) (by kernel_rfl) (fun _ _ d _ _ h => by cases d <;> exact h) (by kernel_rfl) ⟨c0, c1⟩ ?_
          replace HR : Hid (O.R w2.drew (.pointer (some ⟨g, 0, none⟩)) F (L.map Vd.v) last) := Lib.hid (O.low HR.out (show Low w2 w2.drew from Below.drew (Low.refl w2)))
          replace HV : Hid (Vs F 100 w2.drew D q L) := Lib.hid (HV.out.low (show Low w2 w2.drew from Below.drew (Low.refl w2)))
          replace HL : Hid (Below w.heap.size w w2.drew) := Lib.hid (Below.drew HL.out)
          replace c0 : w2.drew.cell? ⟨b0, o0 + i * 2, none⟩ = _ := c0
          replace c1 : w2.drew.cell? ⟨b0, o0 + i * 2 + 1, none⟩ = _ := c1
          generalize w2.drew = w3 at *
          iterate 11 (refine walkS_read (v := _) rfl (by rfl) (by rintro yw ⟨r0, r1⟩; go_simp; try rfl) ?_; simp only [Act.put, List.setIfInBounds_toArray, List.set_cons_zero, List.set_cons_succ])
          refine walkS_act rfl (by rfl) (fun K hK => ?_)
          go_simp
          refine (O.push now tA tk tc t HR.out HRT.out (by omega) hnow (HT.out.below' HL.out HL.out.size) hkc hk44).mono ?_
          rintro e2 w4 ⟨rfl, F', hR2, hG, hO⟩
          have HF2 := Lib.hid (hG.from_ HF.out HL.out.size)
          have HL4 := Lib.hid (HL.out.trans (hO.below HF.out HL.out.size))
          have HV4 := Lib.hid (HV.out.out (F' := F') hO hG)
          have HR4 := Lib.hid hR2
          replace c0 := (HL4.out.cell (p := ⟨b0, o0 + i * 2, none⟩) hb0).trans x0
          replace c1 := (HL4.out.cell (p := ⟨b0, o0 + i * 2 + 1, none⟩) hb0).trans x1
          go_simp
          refine hK _ _ ⟨c0, c1⟩ ?_
          clear hK K hR2 hG hO HF HL HV HR
          iterate 1 (refine walkS_read (v := _) rfl (by rfl) (by rintro yw ⟨r0, r1⟩; go_simp; try rfl) ?_; simp only [Act.put, List.setIfInBounds_toArray, List.set_cons_zero, List.set_cons_succ])
          unfold walkS
          go_wp2_with fail
          refine wp_region_planS (fun y => y.cell? ⟨b0, o0 + i * 2, none⟩ = some (.int .i64 now) ∧ y.cell? ⟨b0, o0 + i * 2 + 1, none⟩ = some (.slice tA tk tc)) (.rd 0 (.rd 1 (.rd 2 (.rd 3 (.rd 4 (.rd 5 (.rd 6 (.rd 7 (.rd 8 (.rd 9 (.rd 10 (.rd 11 (.act 12 (.rd 13 (.rd 14 (.rd 15 (.rd 16 (.rd 17 (.rd 18 (.rd 19 (.done)))))))))))))))))))))
            (by kernel_rfl) (by kernel_rfl) (fun _ _ d _ _ h => by cases d <;> exact h) (by kernel_rfl) ⟨c0, c1⟩ ?_
          replace HR4 := Lib.hid (O.low HR4.out (show Low w4 w4.drew from Below.drew (Low.refl w4)))
          replace HV4 := Lib.hid (HV4.out.low (show Low w4 w4.drew from Below.drew (Low.refl w4)))
          replace HL4 : Hid (Below w.heap.size w w4.drew) := Lib.hid (Below.drew HL4.out)
          replace c0 : w4.drew.cell? ⟨b0, o0 + i * 2, none⟩ = _ := c0
          replace c1 : w4.drew.cell? ⟨b0, o0 + i * 2 + 1, none⟩ = _ := c1
          generalize w4.drew = w5 at *
          iterate 12 (refine walkS_read (v := _) rfl (by rfl) (by rintro yw ⟨r0, r1⟩; go_simp; try rfl) ?_; simp only [Act.put, List.setIfInBounds_toArray, List.set_cons_zero, List.set_cons_succ])
          refine walkS_act rfl (by rfl) (fun K hK => ?_)
          go_simp
          refine (rpushH_any D tA q e tk tc L t last now 100 w5 HQE.out HV4.out.plain HRT.out (by omega) hnow (HT.out.below' HL4.out HL4.out.size) (by omega) (by omega)).mono ?_
          rintro e3 w6 ⟨D', q', e', L', rfl, hLv, hqe', hVF, hl⟩
          have HV6 := Lib.hid (hVF F' (O.under HR4.out) HV4.out)
          have HR6 := Lib.hid (O.low HR4.out hl)
          have HL6 := Lib.hid (show Below w.heap.size w w6 from HL4.out.trans (hl.mono HL4.out.size))
          replace c0 := (HL6.out.cell (p := ⟨b0, o0 + i * 2, none⟩) hb0).trans x0
          replace c1 := (HL6.out.cell (p := ⟨b0, o0 + i * 2 + 1, none⟩) hb0).trans x1
          have HRN := Lib.hid (RightH.next HRT.out t (now := now) (by unfold i64ok at hnow; omega))
          have HLE := Lib.hid (lastH_le (er := mayH (L.map Vd.v) now) hla)
          have HQ' := Lib.hid hqe'
          rw [← hLv] at HRN HR6
          generalize mayH (L.map Vd.v) now = er at *
          generalize lastH last er = last' at *
          go_simp
          refine hK _ _ ⟨c0, c1⟩ ?_
          clear hK K hLv hqe' hVF hl HV4 HR4 HL4 HRT
          iterate 7 (refine walkS_read (v := _) rfl (by rfl) (by rintro yw ⟨r0, r1⟩; go_simp; try rfl) ?_; simp only [Act.put, List.setIfInBounds_toArray, List.set_cons_zero, List.set_cons_succ])
          unfold walkS
          clear c0 c1
          have hle1 := HLE.out
          go_wp2_with fail
          refine (O.newest HR6.out HRN.out (by omega)).mono ?_
          rintro e4 w7 ⟨x, rfl, hx, hl⟩
          have HX := Lib.hid hx
          obtain ⟨xn, xf, xu, xA, xk, xc, xt⟩ := x
          replace HR6 := Lib.hid (O.low HR6.out hl)
          replace HV6 := Lib.hid (HV6.out.low hl)
          replace HL6 := Lib.hid (show Below w.heap.size w w7 from HL6.out.trans (hl.mono HL6.out.size))
          clear hl hx
          go_wp2_with (with_reducible refine wpList_alloc_v rfl _ rfl _ hver_zero ?_; intro w8 HZ hl8 hz8; refine Hid.out ?_)
          refine Lib.hid ?_
          replace HZ := Lib.hid HZ
          go_wp2_with ((refine wpList_store_v rfl 37 (.tmp 14) (.tmp 81) rfl w7.heap.size rfl [.int .i64 xn, .int .i64 xf, .int .i64 xu, .slice xA xk xc] rfl _ _ HZ.out rfl hver_size (vdC_one ⟨xn, xf, xu, xA, xk, xc, xt⟩) ?_); intro w9 HG hb9 hz9; refine Hid.out ?_)
          refine Lib.hid ?_
          have hl9 : Low w7 w9 := Below.trans hl8 hb9
          have HG9 := Lib.hid HG
          replace HR6 := Lib.hid (O.low HR6.out hl9)
          replace HV6 := Lib.hid (HV6.out.low hl9)
          replace HL6 := Lib.hid (show Below w.heap.size w w9 from HL6.out.trans (hl9.mono HL6.out.size))
          clear HZ hl8 hz8 hb9 hz9 hl9 HG
          obtain ⟨g3, hg3⟩ : ∃ g3, g3 = w7.heap.size := ⟨_, rfl⟩
          rw [← hg3] at HG9 ⊢
          clear hg3
          have HT3 := Lib.hid (show ∀ v ∈ L'.map Vd.v, v.t.length ≤ 300 from fun v hv => by
            obtain ⟨y, hy, rfl⟩ := List.mem_map.1 hv
            have h1 := HV6.out.tab y hy
            have h2 := h1.1.len
            show y.t.length ≤ 300
            omega)
          have HPL := Lib.hid (show (pairsH (L'.map Vd.v) H).length = q' by unfold pairsH; rw [List.length_map, List.length_map, HV6.out.len])
          have hq4 : q' ≤ 4 := by have := HRN.out.few; rw [List.length_map, HV6.out.len] at this; exact this
          have hln : L'.length = q' := HV6.out.len
          generalize hfb : decide (er = 0) = fb at *
          have hz : (er == 0) = fb := by rw [← hfb]; rfl
          have hff : (fb != fb) = false := by simp
          replace hfb := Lib.hid hfb
          by_cases hq0 : 0 < q'
          · have g5 : (0 : Int) < q' := by omega
            have hd : decide (0 < L'.length) = true := by rw [hln]; exact decide_eq_true hq0
            have hxn : xn = last' := by
              have h1 := HX.out (by rw [List.length_map, hln]; exact hq0)
              have h2 := HRN.out.num (q' - 1) (by rw [List.length_map, hln]; omega)
              rw [List.length_map, hln] at h1 h2
              have h3 : (((q' - 1 - (q' - 1) : Nat)) : Int) = 0 := by omega
              rw [h3] at h2
              exact h1.trans (by rw [h2]; omega)
            subst hxn
            have b2 : (xn != xn) = false := by simp
            rw [hd]
            clear hd HX hln
            go_wp2_with fail
            refine (O.pairs H HR6.out HRN.out (by omega) HT3.out HH.out).mono ?_
            rintro e5 w10 ⟨A1, c1, rfl, hE1, _, hl⟩
            have HE1 := Lib.hid hE1
            replace HR6 := Lib.hid (O.low HR6.out hl)
            replace HV6 := Lib.hid (HV6.out.low hl)
            replace HG9 := Lib.hid (BlkV.below HG9.out hl HG9.out.lt)
            replace HL6 := Lib.hid (show Below w.heap.size w w10 from HL6.out.trans (hl.mono HL6.out.size))
            clear hl hE1
            go_wp2_with fail
            refine (rpairsH_any D' q' e' L' H w10 (by omega) HH.out (HV6.out.plain.more (by omega))).mono ?_
            rintro e6 w11 ⟨A2, c2, rfl, hE2, _, hl⟩
            have HE2 := Lib.hid hE2
            replace HE1 := Lib.hid (HE1.out.low hl)
            replace HR6 := Lib.hid (O.low HR6.out hl)
            replace HV6 := Lib.hid (HV6.out.low hl)
            replace HG9 := Lib.hid (BlkV.below HG9.out hl HG9.out.lt)
            replace HL6 := Lib.hid (show Below w.heap.size w w11 from HL6.out.trans (hl.mono HL6.out.size))
            clear hl hE2
            rw [HPL.out] at HE1 HE2 ⊢
            generalize pairsH (L'.map Vd.v) H = PR at *
            have b1 : (er != er) = false := by simp
            have c0 : w11.cell? ⟨g3, 0, none⟩ = some (.int .i64 xn) := by rw [BlkV.cell HG9.out 0]; rfl
            go_wp2_with fail
            refine (O.all HR6.out HRN.out (by omega)).mono ?_
            rintro e7 w12 ⟨A3, n3, c3, l3, rfl, hv3, _, hV3, _, _, hl⟩
            have hn3 : n3 = q' := by
              have h1 := congrArg List.length hv3
              rw [List.length_map, List.length_map, hV3.len, HV6.out.len] at h1
              exact h1
            have HSM := Lib.hid hv3
            have HV3 := Lib.hid hV3
            replace HE1 := Lib.hid (HE1.out.low hl)
            replace HE2 := Lib.hid (HE2.out.low hl)
            replace HR6 := Lib.hid (O.low HR6.out hl)
            replace HV6 := Lib.hid (HV6.out.low hl)
            replace HG9 := Lib.hid (BlkV.below HG9.out hl HG9.out.lt)
            replace HL6 := Lib.hid (show Below w.heap.size w w12 from HL6.out.trans (hl.mono HL6.out.size))
            replace c0 : w12.cell? ⟨g3, 0, none⟩ = some (.int .i64 xn) := by rw [BlkV.cell HG9.out 0]; rfl
            replace hn3 := Lib.hid hn3
            clear hl hv3 hV3
            go_wp2_with fail
            refine (sameH_any A3 D' n3 c3 q' e' l3 L' w12 (by have := hn3.out; omega) HV3.out (HV6.out.plain.more (by omega)) HSM.out).mono ?_
            rintro e8 w13 ⟨rfl, hl⟩
            replace HE1 := Lib.hid (HE1.out.low hl)
            replace HE2 := Lib.hid (HE2.out.low hl)
            replace HR6 := Lib.hid (O.low HR6.out hl)
            replace HV6 := Lib.hid (HV6.out.low hl)
            replace HG9 := Lib.hid (BlkV.below HG9.out hl HG9.out.lt)
            replace HL6 := Lib.hid (show Below w.heap.size w w13 from HL6.out.trans (hl.mono HL6.out.size))
            replace c0 : w13.cell? ⟨g3, 0, none⟩ = some (.int .i64 xn) := by rw [BlkV.cell HG9.out 0]; rfl
            clear hl
            go_wp2_with fail
            clear c0 b1 hff hz g5
            go_loopw [18] (fun v18 wy => ∃ j : Nat, j ≤ q' ∧ v18 = .int .i64 j ∧ Hid (Low w13 wy)) (fun v _ => q' - (intOf v).toNat)
            case atStart => exact ⟨0, by omega, rfl, Lib.hid (Low.refl _)⟩
            case round =>
              obtain ⟨j, hj, rfl, hLY⟩ := hrel
              by_cases hjq : j < q'
              · have hjq2 : (j : Int) < q' := by omega
                obtain ⟨ba, oa, rfl, _, _⟩ := HE1.out.mem (by omega)
                obtain ⟨bb, ob, rfl, _, _⟩ := HE2.out.mem (by omega)
                obtain ⟨k1, r1⟩ := HE1.out.at_ hjq
                obtain ⟨k2, r2⟩ := HE2.out.at_ hjq
                have HR1 := Lib.hid (show ∀ u, Low w13 u → u.rangeAt ba (oa + j * 2) (two2 (PR.getD j pairE.zero)) from fun u hu => rangeAt_belowH r1 hu k1)
                have HR2 := Lib.hid (show ∀ u, Low w13 u → u.rangeAt bb (ob + j * 2) (two2 (PR.getD j pairE.zero)) from fun u hu => rangeAt_belowH r2 hu k2)
                generalize PR.getD j pairE.zero = y at *
                obtain ⟨y1, y2⟩ := y
                have heq := fun u => two_same y1 y2 u
                clear k1 k2 r1 r2
                go_wp2_with fail
                refine wp_region_planS (fun y => Low w13 y) (.rd 0 (.rd 1 (.rd 2 (.rd 3 (.rd 4 (.rd 5 (.rd 6 (.rd 7 (.rd 8 (.done))))))))))
                  (by kernel_rfl) (by kernel_rfl) (fun _ _ d _ _ h => by cases d <;> exact h) (by kernel_rfl) hLY.out.drew ?_
                replace hLY := Lib.hid hLY.out.drew
                change walkS _ _ _ _ _ _ wr.drew
                generalize wr.drew = wz at *
                iterate 3 (refine walkS_read (v := _) rfl (by rfl) (by intro y hy; clear hy; go_simp; try rfl) ?_; simp only [Act.put, List.setIfInBounds_toArray, List.set_cons_zero, List.set_cons_succ])
                refine walkS_read (v := .agg #[.int .i64 y1, .int .i64 y2]) rfl (by rfl) (by intro y hy; exact exec_load_midH (cs := [.int .i64 y1, .int .i64 y2]) rfl (HR1.out y hy) Try.underlying46 rfl two_size) ?_
                simp only [Act.put, List.setIfInBounds_toArray, List.set_cons_zero, List.set_cons_succ]
                iterate 3 (refine walkS_read (v := _) rfl (by rfl) (by intro y hy; clear hy; go_simp; try rfl) ?_; simp only [Act.put, List.setIfInBounds_toArray, List.set_cons_zero, List.set_cons_succ])
                refine walkS_read (v := .agg #[.int .i64 y1, .int .i64 y2]) rfl (by rfl) (by intro y hy; exact exec_load_midH (cs := [.int .i64 y1, .int .i64 y2]) rfl (HR2.out y hy) Try.underlying46 rfl two_size) ?_
                simp only [Act.put, List.setIfInBounds_toArray, List.set_cons_zero, List.set_cons_succ]
                iterate 1 (refine walkS_read (v := .bool false) rfl (by rfl) (by intro y hy; clear hy; go_simp; try rfl) ?_; simp only [Act.put, List.setIfInBounds_toArray, List.set_cons_zero, List.set_cons_succ])
                unfold walkS
                clear heq
                go_wp2_with fail
                go_roundw
                case rel => exact ⟨j + 1, by omega, by go_num, hLY⟩
                case measure => simp [intOf]; omega
              · obtain rfl : j = q' := by omega
                have hjq2 : ¬ (j : Int) < j := by omega
                replace HR6 := Lib.hid (O.low HR6.out hLY.out)
                replace HV6 := Lib.hid (HV6.out.low hLY.out)
                replace HL6 := Lib.hid (show Below w.heap.size w wr from HL6.out.trans (hLY.out.mono HL6.out.size))
                go_wp2_with fail
                go_roundw
                case rel =>
                  first
                  | exact ⟨i + 1, j, D', e', L', xn, F', by omega, by omega, by go_num, rfl, rfl, HQ', HLE.out, HRN, HR6, HF2, HV6, HL6⟩
                  | ((repeat apply Exists.intro); exact ⟨⟨i + 1, j, D', e', L', xn, F', by omega, by omega, by go_num, rfl, rfl, HQ', HLE.out, HRN, HR6, HF2, HV6, HL6⟩, rfl⟩)
                case measure => simp [intOf]; omega
          · have g5 : ¬ (0 : Int) < q' := by omega
            have hd : decide (0 < L'.length) = false := by rw [hln]; exact decide_eq_false hq0
            rw [hd]
            clear hd HX hln
            go_wp2_with fail
            refine (O.pairs H HR6.out HRN.out (by omega) HT3.out HH.out).mono ?_
            rintro e5 w10 ⟨A1, c1, rfl, hE1, _, hl⟩
            have HE1 := Lib.hid hE1
            replace HR6 := Lib.hid (O.low HR6.out hl)
            replace HV6 := Lib.hid (HV6.out.low hl)
            replace HG9 := Lib.hid (BlkV.below HG9.out hl HG9.out.lt)
            replace HL6 := Lib.hid (show Below w.heap.size w w10 from HL6.out.trans (hl.mono HL6.out.size))
            clear hl hE1
            go_wp2_with fail
            refine (rpairsH_any D' q' e' L' H w10 (by omega) HH.out (HV6.out.plain.more (by omega))).mono ?_
            rintro e6 w11 ⟨A2, c2, rfl, hE2, _, hl⟩
            have HE2 := Lib.hid hE2
            replace HE1 := Lib.hid (HE1.out.low hl)
            replace HR6 := Lib.hid (O.low HR6.out hl)
            replace HV6 := Lib.hid (HV6.out.low hl)
            replace HG9 := Lib.hid (BlkV.below HG9.out hl HG9.out.lt)
            replace HL6 := Lib.hid (show Below w.heap.size w w11 from HL6.out.trans (hl.mono HL6.out.size))
            clear hl hE2
            rw [HPL.out] at HE1 HE2 ⊢
            generalize pairsH (L'.map Vd.v) H = PR at *
            have b1 : (er != er) = false := by simp
            have c0 : w11.cell? ⟨g3, 0, none⟩ = some (.int .i64 xn) := by rw [BlkV.cell HG9.out 0]; rfl
            go_wp2_with fail
            refine (O.all HR6.out HRN.out (by omega)).mono ?_
            rintro e7 w12 ⟨A3, n3, c3, l3, rfl, hv3, _, hV3, _, _, hl⟩
            have hn3 : n3 = q' := by
              have h1 := congrArg List.length hv3
              rw [List.length_map, List.length_map, hV3.len, HV6.out.len] at h1
              exact h1
            have HSM := Lib.hid hv3
            have HV3 := Lib.hid hV3
            replace HE1 := Lib.hid (HE1.out.low hl)
            replace HE2 := Lib.hid (HE2.out.low hl)
            replace HR6 := Lib.hid (O.low HR6.out hl)
            replace HV6 := Lib.hid (HV6.out.low hl)
            replace HG9 := Lib.hid (BlkV.below HG9.out hl HG9.out.lt)
            replace HL6 := Lib.hid (show Below w.heap.size w w12 from HL6.out.trans (hl.mono HL6.out.size))
            replace c0 : w12.cell? ⟨g3, 0, none⟩ = some (.int .i64 xn) := by rw [BlkV.cell HG9.out 0]; rfl
            replace hn3 := Lib.hid hn3
            clear hl hv3 hV3
            go_wp2_with fail
            refine (sameH_any A3 D' n3 c3 q' e' l3 L' w12 (by have := hn3.out; omega) HV3.out (HV6.out.plain.more (by omega)) HSM.out).mono ?_
            rintro e8 w13 ⟨rfl, hl⟩
            replace HE1 := Lib.hid (HE1.out.low hl)
            replace HE2 := Lib.hid (HE2.out.low hl)
            replace HR6 := Lib.hid (O.low HR6.out hl)
            replace HV6 := Lib.hid (HV6.out.low hl)
            replace HG9 := Lib.hid (BlkV.below HG9.out hl HG9.out.lt)
            replace HL6 := Lib.hid (show Below w.heap.size w w13 from HL6.out.trans (hl.mono HL6.out.size))
            replace c0 : w13.cell? ⟨g3, 0, none⟩ = some (.int .i64 xn) := by rw [BlkV.cell HG9.out 0]; rfl
            clear hl
            go_wp2_with fail
            clear c0 b1 hff hz g5
            go_loopw [18] (fun v18 wy => ∃ j : Nat, j ≤ q' ∧ v18 = .int .i64 j ∧ Hid (Low w13 wy)) (fun v _ => q' - (intOf v).toNat)
            case atStart => exact ⟨0, by omega, rfl, Lib.hid (Low.refl _)⟩
            case round =>
              obtain ⟨j, hj, rfl, hLY⟩ := hrel
              by_cases hjq : j < q'
              · have hjq2 : (j : Int) < q' := by omega
                obtain ⟨ba, oa, rfl, _, _⟩ := HE1.out.mem (by omega)
                obtain ⟨bb, ob, rfl, _, _⟩ := HE2.out.mem (by omega)
                obtain ⟨k1, r1⟩ := HE1.out.at_ hjq
                obtain ⟨k2, r2⟩ := HE2.out.at_ hjq
                have HR1 := Lib.hid (show ∀ u, Low w13 u → u.rangeAt ba (oa + j * 2) (two2 (PR.getD j pairE.zero)) from fun u hu => rangeAt_belowH r1 hu k1)
                have HR2 := Lib.hid (show ∀ u, Low w13 u → u.rangeAt bb (ob + j * 2) (two2 (PR.getD j pairE.zero)) from fun u hu => rangeAt_belowH r2 hu k2)
                generalize PR.getD j pairE.zero = y at *
                obtain ⟨y1, y2⟩ := y
                have heq := fun u => two_same y1 y2 u
                clear k1 k2 r1 r2
                go_wp2_with fail
                refine wp_region_planS (fun y => Low w13 y) (.rd 0 (.rd 1 (.rd 2 (.rd 3 (.rd 4 (.rd 5 (.rd 6 (.rd 7 (.rd 8 (.done))))))))))
                  (by kernel_rfl) (by kernel_rfl) (fun _ _ d _ _ h => by cases d <;> exact h) (by kernel_rfl) hLY.out.drew ?_
                replace hLY := Lib.hid hLY.out.drew
                change walkS _ _ _ _ _ _ wr.drew
                generalize wr.drew = wz at *
                iterate 3 (refine walkS_read (v := _) rfl (by rfl) (by intro y hy; clear hy; go_simp; try rfl) ?_; simp only [Act.put, List.setIfInBounds_toArray, List.set_cons_zero, List.set_cons_succ])
                refine walkS_read (v := .agg #[.int .i64 y1, .int .i64 y2]) rfl (by rfl) (by intro y hy; exact exec_load_midH (cs := [.int .i64 y1, .int .i64 y2]) rfl (HR1.out y hy) Try.underlying46 rfl two_size) ?_
                simp only [Act.put, List.setIfInBounds_toArray, List.set_cons_zero, List.set_cons_succ]
                iterate 3 (refine walkS_read (v := _) rfl (by rfl) (by intro y hy; clear hy; go_simp; try rfl) ?_; simp only [Act.put, List.setIfInBounds_toArray, List.set_cons_zero, List.set_cons_succ])
                refine walkS_read (v := .agg #[.int .i64 y1, .int .i64 y2]) rfl (by rfl) (by intro y hy; exact exec_load_midH (cs := [.int .i64 y1, .int .i64 y2]) rfl (HR2.out y hy) Try.underlying46 rfl two_size) ?_
                simp only [Act.put, List.setIfInBounds_toArray, List.set_cons_zero, List.set_cons_succ]
                iterate 1 (refine walkS_read (v := .bool false) rfl (by rfl) (by intro y hy; clear hy; go_simp; try rfl) ?_; simp only [Act.put, List.setIfInBounds_toArray, List.set_cons_zero, List.set_cons_succ])
                unfold walkS
                clear heq
                go_wp2_with fail
                go_roundw
                case rel => exact ⟨j + 1, by omega, by go_num, hLY⟩
                case measure => simp [intOf]; omega
              · obtain rfl : j = q' := by omega
                have hjq2 : ¬ (j : Int) < j := by omega
                replace HR6 := Lib.hid (O.low HR6.out hLY.out)
                replace HV6 := Lib.hid (HV6.out.low hLY.out)
                replace HL6 := Lib.hid (show Below w.heap.size w wr from HL6.out.trans (hLY.out.mono HL6.out.size))
                go_wp2_with fail
                go_roundw
                case rel =>
                  first
                  | exact ⟨i + 1, j, D', e', L', last', F', by omega, by omega, by go_num, rfl, rfl, HQ', HLE.out, HRN, HR6, HF2, HV6, HL6⟩
                  | ((repeat apply Exists.intro); exact ⟨⟨i + 1, j, D', e', L', last', F', by omega, by omega, by go_num, rfl, rfl, HQ', HLE.out, HRN, HR6, HF2, HV6, HL6⟩, rfl⟩)
                case measure => simp [intOf]; omega
      · have h402 : ¬ (i : Int) < 40 := by omega
        go_wp2_with fail
        refine (HLV.out wr).mono ?_
        rintro e w2 ⟨rfl, hl⟩
        go_wp2_with fail
        go_ret
        exact ⟨rfl, HL.out.trans (hl.mono HL.out.size)⟩
    · have hlt2 : ¬ (i : Int) < n := by omega
      go_wp2_with fail
      refine (HLV.out wr).mono ?_
      rintro e w2 ⟨rfl, hl⟩
      go_wp2_with fail
      go_ret
      exact ⟨rfl, HL.out.trans (hl.mono HL.out.size)⟩
end Go.Proofs.Ytedldebomoplmaa
