/- Stage 20: the program's own history: a table is pushed. Conditions: at most four versions, as kept ones always are; tables of at most 2^44 numbers. -/
import Derived.Test.YtedldebomoplmaaHiO
set_option maxRecDepth 100000
namespace Go.Proofs.Ytedldebomoplmaa
open Go.RowKit
set_option linter.unusedVariables false

theorem Ns.neG {w : World} {B n : Nat} {A : Option Addr} {xs : List Int} (h : Ns w B A n xs) {t2 : TypeId} {g : Nat} {m : Bool} {A2 : Option Addr} {n2 c2 : Nat} (hg : BlkV w t2 g [.bool m, .slice A2 n2 c2]) (hn : 0 < n) {b o : Nat} (e : A = some ⟨b, o, none⟩) : b ≠ g := by
  rintro rfl
  obtain ⟨b', o', e', _, hc⟩ := h.mem hn
  rw [e] at e'
  injection e' with e'
  injection e' with e1 e2 _
  subst e1 e2
  have h0 := hc 0 hn
  rw [Nat.add_zero, hg.cell o] at h0
  rcases o with _ | _ | o
  · cases h0
  · cases h0
  · simp at h0
theorem Ns.exceptG {w w' : World} {n : Nat} {A : Option Addr} {xs : List Int} (h : Ns w w.heap.size A n xs) {t2 : TypeId} {g : Nat} {m : Bool} {A2 : Option Addr} {n2 c2 : Nat} (hg : BlkV w t2 g [.bool m, .slice A2 n2 c2]) (hz : w.heap.size ≤ w'.heap.size) (hk : ∀ k : Nat, k < w.heap.size → k ≠ g → w'.heap[k]? = w.heap[k]?) : Ns w' w'.heap.size A n xs :=
  ⟨h.len, h.all, fun hn => by
    obtain ⟨b, o, e, hb, hc⟩ := h.mem hn
    exact ⟨b, o, e, by omega, fun i hi => (World.cell?_of_block (w := w) (hk b hb (h.neG hg hn e))).trans (hc i hi)⟩⟩
/-- what the program's history has become behind a push -/
def PushedH (w : World) (F : Nat → Prop) (g : Nat) (ld : List Vd) (last now : Int) (t : List Int) (e : Ending) (w' : World) : Prop :=
  e = .returned (.int .i64 (mayH (ld.map Vd.v) now)) ∧ ∃ F' A' n' c' ld', HiAt w' F' g A' n' c' ld' ∧ ld'.map Vd.v = nextH (ld.map Vd.v) last now t ∧ Grow F F' w ∧ Out F w w'

set_option maxRecDepth 100000 in
set_option maxHeartbeats 6400000 in
theorem hpush_any {w : World} {F : Nat → Prop} {g n0 c0 : Nat} {A0 : Option Addr} {ld : List Vd} (last now : Int) (A : Option Addr) (n c : Nat) (t : List Int) (hh : HiAt w F g A0 n0 c0 ld) (hr : RightH (ld.map Vd.v) last) (hz : ld = [] → last = 0) (hlast : last ≤ 1000) (hnow : i64ok now) (ht : Ns w w.heap.size A n t) (hn44 : n ≤ 17592186044416) :
    Calls Try.prog 9 #[.pointer (some ⟨g, 0, none⟩), .int .i64 now, .slice A n c] w (PushedH w F g ld last now t) := by
  obtain ⟨i0, hi, hz0, hz1, hz2⟩ := info_hverJ_parts
  have HI := Lib.hid hi
  have HZ0 := Lib.hid hz0
  have HZ1 := Lib.hid hz1
  have HZ2 := Lib.hid hz2
  clear hi hz0 hz1 hz2
  have HW := Lib.hid (hwrongM_any last now hh hr hnow)
  have h4 : n0 ≤ 4 := by have := hr.few; rw [List.length_map, hh.row.len] at this; exact this
  by_cases hm : mayH (ld.map Vd.v) now = 0
  · have HN1 := Lib.hid (show (lastV ld).n = last by
      unfold lastV
      rcases Nat.eq_zero_or_pos ld.length with h0 | h0
      · have e : ld = [] := List.eq_nil_of_length_eq_zero h0
        rw [hz e, e]
        rfl
      · have h := hr.num (ld.length - 1) (by rw [List.length_map]; omega)
        rw [getD_vb, List.length_map] at h
        have h2 : (ld.getD (ld.length - 1) zeroVd).n = (ld.getD (ld.length - 1) zeroVd).v.n := rfl
        rw [h2, h]
        omega)
    have hpos := hr.pos
    rw [List.length_map] at hpos
    have HE := Lib.hid (show PushedH w F g ld last now t = fun e w' => e = .returned (.int .i64 0) ∧ ∃ F' A' n' c' ld', HiAt w' F' g A' n' c' ld' ∧ ld'.map Vd.v = (stayD now ld).map Vd.v ++ [⟨last + 1, now, -1, t⟩] ∧ Grow F F' w ∧ Out F w w' by
      funext e w'
      unfold PushedH nextH
      rw [hm, if_pos rfl, stayD_map now ld (by rw [hh.row.len]; exact h4)])
    rw [HE.out]
    rw [hm] at HW
    have HH := Lib.hid hh
    have HT := Lib.hid ht
    clear hm HE hz hh ht hr
    go_enter Try.func9, Try.ntmps9
    go_wp2_with fail
    refine HW.out.mono ?_
    rintro e w1 ⟨rfl, hl⟩
    have HL := Lib.hid hl
    have hh1 := HH.out.low hl
    clear hl HW
    go_wp2_with fail
    refine (hnewest_any (some ⟨g, 0, none⟩) A0 n0 c0 ld w1 (by omega) hh1.see hh1.row).mono ?_
    rintro e w2 ⟨rfl, hl⟩
    replace HL := Lib.hid (HL.out.trans hl)
    clear hl hh1
    have HV := Lib.hid (show vdC (lastV ld) = [.int .i64 last, .int .i64 (lastV ld).f, .int .i64 (lastV ld).u, .slice (lastV ld).A (lastV ld).k (lastV ld).c] by unfold vdC; rw [HN1.out])
    generalize vdC (lastV ld) = vs at *
    go_wp2_with (with_reducible refine wpList_alloc_v rfl _ rfl _ hver_zero ?_; intro w3 h3 hl3 hz3; refine Hid.out ?_)
    refine Lib.hid ?_
    go_wp2_with (refine wpList_store_vq rfl _ _ _ rfl w2.heap.size rfl vs rfl _ _ h3 (by rw [HV.out]; rfl) (by rw [HV.out]; kernel_rfl) (by rw [HV.out]; simp [Value.oneCell']) ?_; intro w4 h4' hb4 hz4 ho4; refine Hid.out ?_)
    refine Lib.hid ?_
    have hl4 : Low w2 w4 := Below.trans hl3 hb4
    obtain ⟨gv, hgv⟩ : ∃ gv, gv = w2.heap.size := ⟨_, rfl⟩
    rw [← hgv] at h4' ⊢
    rw [HV.out] at h4'
    have HX := Lib.hid h4'
    replace HL := Lib.hid (HL.out.trans hl4)
    clear h3 hl3 hz3 hb4 hz4 ho4 hl4 h4' hgv HN1
    have hwl : IntKind.i64.wrap (last + 1) = last + 1 := wraps_i64 _ (by omega) (by omega)
    have hwl2 : wrap64 (last + 1) = last + 1 := by unfold wrap64; omega
    go_wp2_with fail
    refine wp_region_planS (fun y => BlkV y 37 gv [.int .i64 last, .int .i64 (lastV ld).f, .int .i64 (lastV ld).u, .slice (lastV ld).A (lastV ld).k (lastV ld).c]) (.rd 0 (.rd 1 (.rd 2 (.rd 3 (.rd 4 (.fork 5 (.rd 6 (.act 7 (.act 8 .done))) 7 (.act 5 (.rd 6 (.act 8 .done)))))))) ) (by kernel_rfl) (by kernel_rfl) (fun _ _ d _ _ h => by cases d <;> exact h) (by kernel_rfl) HX.out ?_
    replace HX : Hid (BlkV w4.drew 37 gv [.int .i64 last, .int .i64 (lastV ld).f, .int .i64 (lastV ld).u, .slice (lastV ld).A (lastV ld).k (lastV ld).c]) := HX
    replace HL : Hid (Low w w4.drew) := Lib.hid (Below.drew HL.out)
    generalize w4.drew = w4d at *
    replace HT := Lib.hid (HT.out.below' HL.out HL.out.size)
    iterate 5 (refine walkS_read (v := _) rfl (by rfl) (by
      intro y hy
      have q : y.cell? ⟨gv, 0, none⟩ = some (.int .i64 last) := hy.cell 0
      clear hy
      first
      | (go_simp; try rfl)) ?_; simp only [Act.put, List.setIfInBounds_toArray, List.set_cons_zero, List.set_cons_succ])
    refine walkS_forkD ?fa ?fb
    case' fa =>
      refine walkS_act rfl (by rfl) (fun K hK => ?_)
      go_simp
      refine (icloneH_any A n c t w4d hn44 HT.out).mono ?_
      rintro e w5 ⟨A5, c5, rfl, hO5, hl⟩
      go_simp
      have hX := HX.out.below hl HX.out.lt
      refine hK _ _ hX ?_
      clear hK K
      have HO5 := Lib.hid (hO5.lower (show w.heap.size ≤ w4d.heap.size from HL.out.size))
      replace HX := Lib.hid hX
      replace HL := Lib.hid (HL.out.trans hl)
      replace HT := Lib.hid (HT.out.below' hl hl.size)
      clear hX hl hO5
      refine walkS_read (v := .agg (vdC ⟨last + 1, now, -1, A5, n, c5, t⟩).toArray) rfl (by rfl) (by intro y hy; go_simp; try rfl) ?_
      simp only [Act.put, List.setIfInBounds_toArray, List.set_cons_zero, List.set_cons_succ]
      refine walkS_act rfl (by rfl) (fun K hK => ?_)
      refine wp_alloc_v 37 rfl _ hver_zero ?_
      have hl := Low.alloc w5 (.cells (vdC zeroVd).toArray 37)
      have hX := HX.out.below hl HX.out.lt
      refine hK _ _ hX ?_
      clear hK K
      have hNN := BlkV.new w5 37 (vdC zeroVd)
      have hsz : (w5.alloc (.cells (vdC zeroVd).toArray 37)).heap.size = w5.heap.size + 1 := by simp
      simp only [Act.put, List.setIfInBounds_toArray, List.set_cons_zero, List.set_cons_succ]
      generalize w5.alloc (.cells (vdC zeroVd).toArray 37) = w6 at *
      have hgw := HL.out.size
      have hgvl := HX.out.lt
      obtain ⟨gn, hgn⟩ : ∃ gn, gn = w5.heap.size := ⟨_, rfl⟩
      rw [← hgn] at hNN hsz ⊢
      have HNN := Lib.hid hNN
      have HGN := Lib.hid (show w.heap.size ≤ gn by omega)
      have HGV := Lib.hid (show gv ≠ gn by omega)
      replace HX := Lib.hid hX
      replace HL := Lib.hid (HL.out.trans hl)
      replace HO5 := Lib.hid (HO5.out.below hl)
      replace HT := Lib.hid (HT.out.below' hl hl.size)
      clear hNN hsz hgw hgn hX hl hgvl
    case' fb =>
      refine walkS_act rfl (by rfl) (fun K hK => ?_)
      refine wp_alloc_v 37 rfl _ hver_zero ?_
      have hl := Low.alloc w4d (.cells (vdC zeroVd).toArray 37)
      have hX := HX.out.below hl HX.out.lt
      refine hK _ _ hX ?_
      clear hK K
      have hNN := BlkV.new w4d 37 (vdC zeroVd)
      have hsz : (w4d.alloc (.cells (vdC zeroVd).toArray 37)).heap.size = w4d.heap.size + 1 := by simp
      simp only [Act.put, List.setIfInBounds_toArray, List.set_cons_zero, List.set_cons_succ]
      generalize w4d.alloc (.cells (vdC zeroVd).toArray 37) = w5 at *
      have hgw := HL.out.size
      have hgvl := HX.out.lt
      obtain ⟨gn, hgn⟩ : ∃ gn, gn = w4d.heap.size := ⟨_, rfl⟩
      rw [← hgn] at hNN hsz ⊢
      have HNN := Lib.hid hNN
      have HGN := Lib.hid (show w.heap.size ≤ gn by omega)
      have HGV := Lib.hid (show gv ≠ gn by omega)
      replace HX := Lib.hid hX
      replace HL := Lib.hid (HL.out.trans hl)
      replace HT := Lib.hid (HT.out.below' hl hl.size)
      clear hNN hsz hgw hgn hX hl hgvl
      refine walkS_act rfl (by rfl) (fun K hK => ?_)
      go_simp
      refine (icloneH_any A n c t w5 hn44 HT.out).mono ?_
      rintro e w6 ⟨A5, c5, rfl, hO5, hl⟩
      go_simp
      have hX := HX.out.below hl HX.out.lt
      refine hK _ _ hX ?_
      clear hK K
      have HO5 := Lib.hid (hO5.lower (show w.heap.size ≤ w5.heap.size from HL.out.size))
      replace HX := Lib.hid hX
      replace HL := Lib.hid (HL.out.trans hl)
      replace HT := Lib.hid (HT.out.below' hl hl.size)
      replace HNN := Lib.hid (HNN.out.below hl HNN.out.lt)
      clear hX hl hO5
      refine walkS_read (v := .agg (vdC ⟨last + 1, now, -1, A5, n, c5, t⟩).toArray) rfl (by rfl) (by intro y hy; go_simp; try rfl) ?_
      simp only [Act.put, List.setIfInBounds_toArray, List.set_cons_zero, List.set_cons_succ]
    all_goals
      refine walkS_act rfl (by rfl) (fun K hK => ?_)
      refine wp_store_v 37 _ _ rfl gn rfl (vdC ⟨last + 1, now, -1, A5, n, c5, t⟩) rfl _ _ HNN.out rfl (by kernel_rfl) (vdC_one _) (fun w7 h7 hb7 hz7 ho7 => ?_)
      refine hK _ _ (HX.out.same (ho7 gv HGV.out)) ?_
      clear hK K
      unfold walkS
      have HX7 := Lib.hid h7
      have HO7 := Lib.hid (HO5.out.byT fun k cs z hk => ho7 k (HNN.out.neT hk (by decide +kernel)))
      have HL7 := Lib.hid (Below.trans HL.out (hb7.mono HGN.out))
      have HST := Lib.hid (fun u (hu : HiAt u F g A0 n0 c0 ld) => hstaying_any g A0 n0 c0 ld now u h4 hu.cap (hu.head.cell 1) hu.row)
      have HSL := Lib.hid (show (stayD now ld).length ≤ 4 by
        unfold stayD
        rw [endD_len]
        have := HH.out.row.len
        split
        · rw [List.length_drop]; omega
        · omega)
      obtain ⟨m, hmm⟩ : ∃ m, m = (stayD now ld).length := ⟨_, rfl⟩
      rw [← hmm] at HST HSL
      have HMM := Lib.hid hmm
      clear h7 hb7 hz7 ho7 HX HNN HO5 HL HT hmm HV
      go_wp2_with fail
      refine wp_region_planS (fun y => BlkV y 37 gn (vdC ⟨last + 1, now, -1, A5, n, c5, t⟩)) (.rd 0 (.rd 1 (.rd 2 (.rd 4 (.fork 3 (.act 5 (.act 6 (.rd 7 (.rd 8 (.act 9 .done))))) 5 (.act 3 (.act 6 (.rd 7 (.rd 8 (.act 9 .done)))))))))) (by kernel_rfl) (by kernel_rfl) (fun _ _ d _ _ h => by cases d <;> exact h) (by kernel_rfl) HX7.out ?_
      replace HX7 : Hid (BlkV w7.drew 37 gn (vdC ⟨last + 1, now, -1, A5, n, c5, t⟩)) := HX7
      replace HO7 : Hid (OwnN 3 w7.drew w.heap.size A5 n c5 t) := HO7
      replace HL7 : Hid (Low w w7.drew) := Lib.hid (Below.drew HL7.out)
      generalize w7.drew = w8 at *
      iterate 4 (refine walkS_read (v := _) rfl (by rfl) (by
        intro y hy
        first
        | exact exec_load_v rfl hy _ Try.underlying37 rfl (by kernel_rfl)
        | (clear hy; go_simp; try rfl)) ?_; simp only [Act.put, List.setIfInBounds_toArray, List.set_cons_zero, List.set_cons_succ])
      dsimp only [vdC]
      refine walkS_forkD ?_ ?_
    case' fa.refine_1 =>
      refine walkS_act rfl (by rfl) (fun K hK => ?_)
      go_simp
      refine (HST.out w8 (HH.out.low HL7.out)).mono ?_
      rintro e w9 ⟨D, d, rfl, hO, hl⟩
      go_simp
      have hX := HX7.out.below hl HX7.out.lt
      refine hK _ _ hX ?_
      clear hK K
      have HOB := Lib.hid (show ∀ k, (Value.slice D m d).ownBlock = some k → gn < k from fun k e => by have := (hO.lt k e).1; have := HX7.out.lt; omega)
      replace HX7 := Lib.hid hX
      replace HO7 := Lib.hid (HO7.out.below hl)
      have HOW := Lib.hid (hO.lower (show w.heap.size ≤ w8.heap.size from HL7.out.size))
      replace HL7 := Lib.hid (HL7.out.trans hl)
      clear hl hO hX
      refine walkS_act rfl (by rfl) (fun K hK => ?_)
      go_simp
      have hl := Low.alloc w9 (.cells #[.int .i64 (last + 1), .int .i64 now, .int .i64 (-1), .slice A5 n c5] 37)
      have hE : Es verE (w9.alloc (.cells #[.int .i64 (last + 1), .int .i64 now, .int .i64 (-1), .slice A5 n c5] 37)) (w9.heap.size + 1) (some ⟨w9.heap.size, 0, none⟩) 1 [⟨last + 1, now, -1, A5, n, c5, t⟩] := Es.one_ (E := verE) w9 37 ⟨last + 1, now, -1, A5, n, c5, t⟩ trivial (Nat.lt_succ_self _)
      have hsA : (w9.alloc (.cells #[.int .i64 (last + 1), .int .i64 now, .int .i64 (-1), .slice A5 n c5] 37)).heap.size = w9.heap.size + 1 := by simp
      have hX := HX7.out.below hl HX7.out.lt
      refine hK _ _ hX ?_
      clear hK K
      generalize w9.alloc (.cells #[.int .i64 (last + 1), .int .i64 now, .int .i64 (-1), .slice A5 n c5] 37) = w10 at *
      replace HX7 := Lib.hid hX
      replace HO7 := Lib.hid (HO7.out.below hl)
      replace HL7 := Lib.hid (HL7.out.trans hl)
      obtain ⟨gb, hgb⟩ : ∃ gb, gb = w9.heap.size := ⟨_, rfl⟩
      rw [← hgb] at hE hsA ⊢
      rw [← hsA] at hE
      have HE9 := Lib.hid hE
      replace HOW := Lib.hid (HOW.out.below hl)
      clear hl hE hsA hX hgb
    case' fa.refine_2 =>
      refine walkS_act rfl (by rfl) (fun K hK => ?_)
      go_simp
      have hl := Low.alloc w8 (.cells #[.int .i64 (last + 1), .int .i64 now, .int .i64 (-1), .slice A5 n c5] 37)
      have hE : Es verE (w8.alloc (.cells #[.int .i64 (last + 1), .int .i64 now, .int .i64 (-1), .slice A5 n c5] 37)) (w8.heap.size + 1) (some ⟨w8.heap.size, 0, none⟩) 1 [⟨last + 1, now, -1, A5, n, c5, t⟩] := Es.one_ (E := verE) w8 37 ⟨last + 1, now, -1, A5, n, c5, t⟩ trivial (Nat.lt_succ_self _)
      have hsA : (w8.alloc (.cells #[.int .i64 (last + 1), .int .i64 now, .int .i64 (-1), .slice A5 n c5] 37)).heap.size = w8.heap.size + 1 := by simp
      have hX := HX7.out.below hl HX7.out.lt
      refine hK _ _ hX ?_
      clear hK K
      generalize w8.alloc (.cells #[.int .i64 (last + 1), .int .i64 now, .int .i64 (-1), .slice A5 n c5] 37) = w9 at *
      replace HX7 := Lib.hid hX
      replace HO7 := Lib.hid (HO7.out.below hl)
      replace HL7 := Lib.hid (HL7.out.trans hl)
      obtain ⟨gb, hgb⟩ : ∃ gb, gb = w8.heap.size := ⟨_, rfl⟩
      rw [← hgb] at hE hsA ⊢
      rw [← hsA] at hE
      have HE9 := Lib.hid hE
      clear hl hE hsA hX hgb
      refine walkS_act rfl (by rfl) (fun K hK => ?_)
      go_simp
      refine (HST.out w9 (HH.out.low HL7.out)).mono ?_
      rintro e w10 ⟨D, d, rfl, hO, hl⟩
      go_simp
      have hX := HX7.out.below hl HX7.out.lt
      refine hK _ _ hX ?_
      clear hK K
      have HOB := Lib.hid (show ∀ k, (Value.slice D m d).ownBlock = some k → gn < k from fun k e => by have := (hO.lt k e).1; have := HX7.out.lt; omega)
      replace HX7 := Lib.hid hX
      replace HO7 := Lib.hid (HO7.out.below hl)
      have HOW := Lib.hid (hO.lower (show w.heap.size ≤ w9.heap.size from HL7.out.size))
      replace HL7 := Lib.hid (HL7.out.trans hl)
      replace HE9 := Lib.hid (HE9.out.below' hl hl.size)
      clear hl hO hX
    case' fb.refine_1 =>
      refine walkS_act rfl (by rfl) (fun K hK => ?_)
      go_simp
      refine (HST.out w8 (HH.out.low HL7.out)).mono ?_
      rintro e w9 ⟨D, d, rfl, hO, hl⟩
      go_simp
      have hX := HX7.out.below hl HX7.out.lt
      refine hK _ _ hX ?_
      clear hK K
      have HOB := Lib.hid (show ∀ k, (Value.slice D m d).ownBlock = some k → gn < k from fun k e => by have := (hO.lt k e).1; have := HX7.out.lt; omega)
      replace HX7 := Lib.hid hX
      replace HO7 := Lib.hid (HO7.out.below hl)
      have HOW := Lib.hid (hO.lower (show w.heap.size ≤ w8.heap.size from HL7.out.size))
      replace HL7 := Lib.hid (HL7.out.trans hl)
      clear hl hO hX
      refine walkS_act rfl (by rfl) (fun K hK => ?_)
      go_simp
      have hl := Low.alloc w9 (.cells #[.int .i64 (last + 1), .int .i64 now, .int .i64 (-1), .slice A5 n c5] 37)
      have hE : Es verE (w9.alloc (.cells #[.int .i64 (last + 1), .int .i64 now, .int .i64 (-1), .slice A5 n c5] 37)) (w9.heap.size + 1) (some ⟨w9.heap.size, 0, none⟩) 1 [⟨last + 1, now, -1, A5, n, c5, t⟩] := Es.one_ (E := verE) w9 37 ⟨last + 1, now, -1, A5, n, c5, t⟩ trivial (Nat.lt_succ_self _)
      have hsA : (w9.alloc (.cells #[.int .i64 (last + 1), .int .i64 now, .int .i64 (-1), .slice A5 n c5] 37)).heap.size = w9.heap.size + 1 := by simp
      have hX := HX7.out.below hl HX7.out.lt
      refine hK _ _ hX ?_
      clear hK K
      generalize w9.alloc (.cells #[.int .i64 (last + 1), .int .i64 now, .int .i64 (-1), .slice A5 n c5] 37) = w10 at *
      replace HX7 := Lib.hid hX
      replace HO7 := Lib.hid (HO7.out.below hl)
      replace HL7 := Lib.hid (HL7.out.trans hl)
      obtain ⟨gb, hgb⟩ : ∃ gb, gb = w9.heap.size := ⟨_, rfl⟩
      rw [← hgb] at hE hsA ⊢
      rw [← hsA] at hE
      have HE9 := Lib.hid hE
      replace HOW := Lib.hid (HOW.out.below hl)
      clear hl hE hsA hX hgb
    case' fb.refine_2 =>
      refine walkS_act rfl (by rfl) (fun K hK => ?_)
      go_simp
      have hl := Low.alloc w8 (.cells #[.int .i64 (last + 1), .int .i64 now, .int .i64 (-1), .slice A5 n c5] 37)
      have hE : Es verE (w8.alloc (.cells #[.int .i64 (last + 1), .int .i64 now, .int .i64 (-1), .slice A5 n c5] 37)) (w8.heap.size + 1) (some ⟨w8.heap.size, 0, none⟩) 1 [⟨last + 1, now, -1, A5, n, c5, t⟩] := Es.one_ (E := verE) w8 37 ⟨last + 1, now, -1, A5, n, c5, t⟩ trivial (Nat.lt_succ_self _)
      have hsA : (w8.alloc (.cells #[.int .i64 (last + 1), .int .i64 now, .int .i64 (-1), .slice A5 n c5] 37)).heap.size = w8.heap.size + 1 := by simp
      have hX := HX7.out.below hl HX7.out.lt
      refine hK _ _ hX ?_
      clear hK K
      generalize w8.alloc (.cells #[.int .i64 (last + 1), .int .i64 now, .int .i64 (-1), .slice A5 n c5] 37) = w9 at *
      replace HX7 := Lib.hid hX
      replace HO7 := Lib.hid (HO7.out.below hl)
      replace HL7 := Lib.hid (HL7.out.trans hl)
      obtain ⟨gb, hgb⟩ : ∃ gb, gb = w8.heap.size := ⟨_, rfl⟩
      rw [← hgb] at hE hsA ⊢
      rw [← hsA] at hE
      have HE9 := Lib.hid hE
      clear hl hE hsA hX hgb
      refine walkS_act rfl (by rfl) (fun K hK => ?_)
      go_simp
      refine (HST.out w9 (HH.out.low HL7.out)).mono ?_
      rintro e w10 ⟨D, d, rfl, hO, hl⟩
      go_simp
      have hX := HX7.out.below hl HX7.out.lt
      refine hK _ _ hX ?_
      clear hK K
      have HOB := Lib.hid (show ∀ k, (Value.slice D m d).ownBlock = some k → gn < k from fun k e => by have := (hO.lt k e).1; have := HX7.out.lt; omega)
      replace HX7 := Lib.hid hX
      replace HO7 := Lib.hid (HO7.out.below hl)
      have HOW := Lib.hid (hO.lower (show w.heap.size ≤ w9.heap.size from HL7.out.size))
      replace HL7 := Lib.hid (HL7.out.trans hl)
      replace HE9 := Lib.hid (HE9.out.below' hl hl.size)
      clear hl hO hX
    all_goals
      have hb10 : w.heap.size ≤ w10.heap.size := HL7.out.size
      refine walkS_act rfl (by rfl) (fun K hK => ?_)
      refine wp_append_es (E := verE) _ _ _ rfl w.heap.size 37 i0 _ 48 Try.underlying44 HI.out HZ0.out HZ1.out rfl HZ2.out D m d (stayD now ld) rfl HOW.out _ 1 1 w10.heap.size [⟨last + 1, now, -1, A5, n, c5, t⟩] rfl HE9.out (by have := HSL.out; omega) (by have := HSL.out; omega) hb10 (fun A9 c9 w11 hown hgr hob => ?_)
      have hcs := fun k (e : (Value.slice D m d).ownBlock = some k) => HOW.out.lt k e
      have hX11 : BlkV w11 37 gn (vdC ⟨last + 1, now, -1, A5, n, c5, t⟩) := (hgr.block gn HX7.out.lt (fun e => by have := (HOB.out gn e.symm); omega)).trans HX7.out
      refine hK _ _ hX11 ?_
      clear hK K
      have hne := HOW.out.lt
      have hhn := HH.out.low HL7.out
      have hglt := HH.out.head.lt
      have hG11 : BlkV w11 51 g [.bool true, .slice A0 n0 c0] := (hgr.block g hhn.head.lt (fun e => by have := (hne g e.symm).1; omega)).trans hhn.head
      have hL11 : Low w w11 := Below.grown HL7.out hgr hb10 (fun k e => (hne k e).1)
      have hO11 := HO7.out.byT (w' := w11) fun k cs z hk => hgr.block k (Array.getElem?_eq_some_iff.1 hk).1 (fun e => by
        obtain ⟨cs', h⟩ := HOW.out.isCells e.symm
        rw [hk] at h
        injection h with h
        injection h with _ h _
        exact absurd h (by decide +kernel))
      have HG11 := Lib.hid hG11
      have HL11 := Lib.hid hL11
      have HO11 := Lib.hid hO11
      have HOW11 := Lib.hid hown
      clear hne hhn hG11 hL11 hO11 hown hgr hob hcs HX7 HO7 HOW HL7 HE9
      simp only [Act.put, List.setIfInBounds_toArray, List.set_cons_zero, List.set_cons_succ]
      iterate 2 (refine walkS_read (v := _) rfl (by rfl) (by
        intro y hy
        clear hy
        first
        | (go_simp; try rfl)) ?_; simp only [Act.put, List.setIfInBounds_toArray, List.set_cons_zero, List.set_cons_succ])
      refine walkS_act rfl (by rfl) (fun K hK => ?_)
      refine wp_store_one 44 _ _ rfl g 1 rfl (.slice A9 (m + 1) c9) rfl rfl rfl 51 _ HG11.out (by simp) (by kernel_rfl) (fun w12 h12 hb12 hz12 ho12 => ?_)
      refine hK _ _ (hX11.same (ho12 gn (by have := HGN.out; omega))) ?_
      clear hK K hX11
      unfold walkS
      have HB12 := Lib.hid hb12
      have HZ12 := Lib.hid hz12
      have HR12 := Lib.hid ho12
      have H12 := Lib.hid h12
      clear hb12 hz12 ho12 h12
      go_wp2_with fail
      go_ret
      refine ⟨rfl, fun k => F k ∨ (w.heap.size ≤ k ∧ k < w12.heap.size), A9, m + 1, c9, stayD now ld ++ [⟨last + 1, now, -1, A5, n, c5, t⟩], ?_, by rw [List.map_append]; rfl, fun k hk => hk.imp id And.left, ?_⟩
      · have hz := HL11.out.size
        have hz2 := HZ12.out
        have hO12 := HO11.out.byT (w' := w12) fun k cs z hk => HR12.out k (HG11.out.neT hk (by decide +kernel))
        have hR12 := HOW11.out.byT (w' := w12) fun k cs z hk => HR12.out k (HG11.out.neT hk (by decide +kernel))
        refine ⟨H12.out, hR12.cap.1, hR12.lies (Nat.le_refl _), fun x hx => ?_, fun k hk => ?_, .inl HH.out.inG, fun h0 b o e => ?_, fun x hx h0 b o e => ?_⟩
        · rcases List.mem_append.1 hx with hx | hx
          · obtain ⟨y, hy, e1, e2, e3, e4⟩ := stayD_mem hx
            rw [e1, e2, e3, e4]
            have hty := HH.out.tab y hy
            exact ⟨hty.1.exceptG HH.out.head (by omega) fun k hk hkg => (HR12.out k hkg).trans (HL11.out.block k hk), hty.2⟩
          · rw [List.mem_singleton.1 hx]
            exact ⟨hO12.bs (Nat.le_refl _), hO12.cap.1, hn44⟩
        · rcases hk with hk | hk
          · have := HH.out.under k hk
            omega
          · exact hk.2
        · obtain ⟨g', e', h1, h2, _⟩ := hR12.formE h0
          rw [e] at e'
          injection e' with e'
          injection e' with e' _ _
          subst e'
          exact .inr ⟨h1, h2⟩
        · rcases List.mem_append.1 hx with hx | hx
          · obtain ⟨y, hy, e1, e2, e3, e4⟩ := stayD_mem hx
            rw [e2] at h0
            rw [e1] at e
            exact .inl (HH.out.inT y hy h0 b o e)
          · rw [List.mem_singleton.1 hx] at h0 e
            obtain ⟨g', cap, hv, h1, h2⟩ := World.ownsRow.form hO12.1 h0
            injection hv with hv
            rw [show (⟨last + 1, now, -1, A5, n, c5, t⟩ : Vd).A = A5 from rfl] at e
            rw [e] at hv
            injection hv with hv
            injection hv with hv _ _
            subst hv
            exact .inr ⟨h1, h2⟩
      · exact ⟨HB12.out.os.trans HL11.out.os, HB12.out.tape.trans HL11.out.tape, HB12.out.output.trans HL11.out.output, by have := HL11.out.size; have := HZ12.out; omega, fun k hk hF => (HR12.out k (by rintro rfl; exact hF HH.out.inG)).trans (HL11.out.block k hk)⟩
  · have HE := Lib.hid (show nextH (ld.map Vd.v) last now t = ld.map Vd.v by unfold nextH; rw [if_neg hm])
    have HH := Lib.hid hh
    have HEP := Lib.hid (show PushedH w F g ld last now t = PushedH w F g ld last now t from rfl)
    unfold PushedH at HEP ⊢
    rw [HE.out]
    generalize mayH (ld.map Vd.v) now = r at *
    have hm2 : (r != 0) = true := by simpa using hm
    clear hh hr ht HEP hm
    go_enter Try.func9, Try.ntmps9
    go_wp2_with fail
    refine HW.out.mono ?_
    rintro e w1 ⟨rfl, hl⟩
    have HL := Lib.hid hl
    clear hl HW
    go_wp2_with fail
    go_ret
    exact ⟨rfl, F, A0, n0, c0, ld, HH.out.low HL.out, rfl, Grow.refl _ _, Out.low HL.out⟩
theorem hpushZ_any (p : Option Addr) (now : Int) (A : Option Addr) (n c : Nat) (w : World) (hm : MadeH w w.heap.size p false) :
    Calls Try.prog 9 #[.pointer p, .int .i64 now, .slice A n c] w fun e w' => e = .returned (.int .i64 1) ∧ Low w w' := by
  have HW := Lib.hid (hwrongZ_any p now w hm)
  clear hm
  go_enter Try.func9, Try.ntmps9
  go_wp2_with fail
  refine HW.out.mono ?_
  rintro e w1 ⟨rfl, hl⟩
  have HL := Lib.hid hl
  clear hl HW
  go_wp2_with fail
  go_ret
  exact ⟨rfl, HL.out⟩
end Go.Proofs.Ytedldebomoplmaa
