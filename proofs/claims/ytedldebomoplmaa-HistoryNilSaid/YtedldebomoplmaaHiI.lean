/- Stage 20: the walk of HistoryNil, given the program's own history, and what it tells where no call made one. No condition. -/
import Derived.Test.YtedldebomoplmaaHiG
set_option maxRecDepth 100000
namespace Go.Proofs.Ytedldebomoplmaa
open Go.RowKit
set_option linter.unusedVariables false

/-- these cells are those of a history that no call made -/
def IsZ (cs : Array Value) : Prop := ((Try.prog.info? 51).bind (·.zero)).map (fun z => z.cells) = some cs
/-- there is none, or no call made it -/
def NoHi (w : World) (v : Value) : Prop := v = .pointer none ∨ ∃ g cs, v = .pointer (some ⟨g, 0, none⟩) ∧ IsZ cs ∧ w.heap[g]? = some (.cells cs 51 (0, 0))
theorem NoHi.low {w w' : World} {v : Value} (h : NoHi w v) (hl : Low w w') : NoHi w' v := by
  rcases h with h | ⟨g, cs, h, hz, hb⟩
  · exact .inl h
  · exact .inr ⟨g, cs, h, hz, (hl.block g (Array.getElem?_eq_some_iff.1 hb).1).trans hb⟩
theorem NoHi.out {F : Nat → Prop} {w w' : World} {v : Value} (h : NoHi w v) (hF : ∀ g, v = .pointer (some ⟨g, 0, none⟩) → ¬ F g) (hO : Out F w w') : NoHi w' v := by
  rcases h with h | ⟨g, cs, h, hz, hb⟩
  · exact .inl h
  · exact .inr ⟨g, cs, h, hz, (hO.block g (Array.getElem?_eq_some_iff.1 hb).1 (hF g h)).trans hb⟩
theorem NoHi.new (w : World) {cs : Array Value} (h : IsZ cs) : NoHi (w.alloc (.cells cs 51)) (.pointer (some ⟨w.heap.size, 0, none⟩)) := .inr ⟨_, cs, rfl, h, heap_alloc_new w _⟩
/-- what of such a one is told -/
structure HiNone where
  push : ∀ {w v} (now : Int), NoHi w v → i64ok now → Calls Try.prog 9 #[v, .int .i64 now, .slice none 0 0] w fun e w' => e = .returned (.int .i64 1) ∧ Low w w'
  free : ∀ {w v} (now : Int), NoHi w v → i64ok now → Calls Try.prog 8 #[v, .int .i64 now] w fun e w' => e = .returned (.bool false) ∧ Low w w'
  newest : ∀ {w v}, NoHi w v → Calls Try.prog 11 #[v] w fun e w' => ∃ x : Vd, e = .returned (.tuple #[.agg (vdC x).toArray, .bool false]) ∧ Low w w'
  all : ∀ {w v}, NoHi w v → Calls Try.prog 15 #[v] w fun e w' => ∃ A c, e = .returned (.slice A 0 c) ∧ Low w w'
  pairs : ∀ {w v} (H : Nat), NoHi w v → H < 18446744073709551616 → Calls Try.prog 12 #[v, .int .u64 H] w fun e w' => ∃ A c, e = .returned (.slice A 0 c) ∧ Low w w'

theorem first7 (H : Nat) : firstP [7] H = 7 := by
  unfold firstP
  simp [Nat.mod_one]
  decide
theorem next7 : nextH [] 0 0 [7] = [⟨1, 0, -1, [7]⟩] := by
  unfold nextH
  rw [if_pos (show mayH [] 0 = 0 by decide +kernel)]
  rfl
theorem may7 : mayH [] 0 = 0 := by decide +kernel

set_option maxHeartbeats 6400000 in
set_option maxRecDepth 100000 in
theorem hin_walk (O : HiObj) (Z : HiNone) (now : Int) (H : Nat) (w : World) (hnow : i64ok now) (hH : H < 18446744073709551616) :
    Calls Try.prog 5 #[.int .i64 now, .int .u64 H] w fun e w' => e = .returned (.bool true) ∧ Low w w' := by
  have HLV := Lib.hid fun u => hilives_any O u
  have HH := Lib.hid hH
  clear hH
  go_enter Try.func5, Try.ntmps5
  go_wp2_with fail
  refine (Z.newest (.inl rfl)).mono ?_
  rintro e w2 ⟨x, rfl, hl⟩
  have HZ := Lib.hid ((NoHi.new w (by unfold IsZ; kernel_rfl)).low hl)
  have HL := Lib.hid (show Low w w2 from (Low.alloc w _).trans hl)
  have hg0 : w.heap.size < w2.heap.size := by have := hl.size; simp at this; omega
  clear hl
  obtain ⟨x1, x2, x3, x4, x5, x6, x7⟩ := x
  obtain ⟨g0, hgg⟩ : ∃ g0, g0 = w.heap.size := ⟨_, rfl⟩
  have HG0 := Lib.hid hgg
  rw [← hgg] at HZ hg0 ⊢
  clear hgg
  go_wp2_with (with_reducible refine wpList_alloc_v rfl _ rfl _ hver_zero ?_; intro w3 HV hl3 hz3; refine Hid.out ?_)
  refine Lib.hid ?_
  replace HV := Lib.hid HV
  go_wp2_with ((refine wpList_store_v rfl 37 (.tmp 7) (.tmp 19) rfl w2.heap.size rfl (vdC ⟨x1, x2, x3, x4, x5, x6, x7⟩) rfl _ _ HV.out rfl hver_size (vdC_one ⟨x1, x2, x3, x4, x5, x6, x7⟩) ?_); intro w4 HG hb4 hz4; refine Hid.out ?_)
  refine Lib.hid ?_
  have hl4 : Low w2 w4 := Below.trans hl3 hb4
  replace HZ := Lib.hid (HZ.out.low hl4)
  replace HL := Lib.hid (HL.out.trans hl4)
  have hg4 : g0 < w4.heap.size := by have := hl4.size; omega
  clear HV hl3 hz3 HG hb4 hz4 hl4 hg0
  go_wp2_with fail
  refine (Z.newest HZ.out).mono ?_
  rintro e w5 ⟨x, rfl, hl⟩
  replace HZ := Lib.hid (HZ.out.low hl)
  replace HL := Lib.hid (HL.out.trans hl)
  have hg5 : g0 < w5.heap.size := by have := hl.size; omega
  clear hl hg4
  obtain ⟨x1, x2, x3, x4, x5, x6, x7⟩ := x
  go_wp2_with (with_reducible refine wpList_alloc_v rfl _ rfl _ hver_zero ?_; intro w6 HV hl3 hz3; refine Hid.out ?_)
  refine Lib.hid ?_
  replace HV := Lib.hid HV
  go_wp2_with ((refine wpList_store_v rfl 37 (.tmp 9) (.tmp 24) rfl w5.heap.size rfl (vdC ⟨x1, x2, x3, x4, x5, x6, x7⟩) rfl _ _ HV.out rfl hver_size (vdC_one ⟨x1, x2, x3, x4, x5, x6, x7⟩) ?_); intro w7 HG hb4 hz4; refine Hid.out ?_)
  refine Lib.hid ?_
  have hl7 : Low w5 w7 := Below.trans hl3 hb4
  replace HZ := Lib.hid (HZ.out.low hl7)
  replace HL := Lib.hid (HL.out.trans hl7)
  have hg7 : g0 < w7.heap.size := by have := hl7.size; omega
  clear HV hl3 hz3 HG hb4 hz4 hl7 hg5
  go_wp2_with fail
  refine (O.new w7).mono ?_
  rintro e w8 ⟨g, F, rfl, hR, hF, hl⟩
  have hFg : ¬ F g0 := fun h => by have := hF g0 h; omega
  have HF := Lib.hid (show ∀ k, F k → w.heap.size ≤ k from fun k hk => Nat.le_trans HL.out.size (hF k hk))
  replace HZ := Lib.hid (HZ.out.low hl)
  replace HL := Lib.hid (HL.out.trans hl)
  have hlA := Low.alloc w8 (.cells #[.int .i64 7] 3)
  have hkA : BlkN (w8.alloc (.cells #[.int .i64 7] 3)) 3 w8.heap.size [7] := BlkN.new w8 3 [7]
  have HN := Lib.hid (hkA.bs (n := 1) (.cons (by omega) (by omega) .nil) hkA.lt rfl)
  have HR := Lib.hid (O.low hR hlA)
  replace HZ := Lib.hid (HZ.out.low hlA)
  replace HL := Lib.hid (HL.out.trans hlA)
  clear hl hR hF hlA hkA hg7
  go_wp2_with fail
  refine (O.push 0 _ 1 1 [7] HR.out RightH.nil (by omega) (by unfold i64ok; omega) HN.out (by omega) (by omega)).mono ?_
  rintro e w9 ⟨rfl, F', hR2, hG, hO⟩
  rw [next7, may7, show lastH 0 0 = 1 from rfl] at hR2
  have HRT := Lib.hid (show RightH [(⟨1, 0, -1, [7]⟩ : Vb)] 1 from by
    have h := RightH.push RightH.nil [7] may7 (by omega)
    exact h)
  replace HR := Lib.hid hR2
  have hFg' : ¬ F' g0 := fun h => by
    rcases hG g0 h with h1 | h1
    · exact hFg h1
    · rcases HZ.out with h2 | ⟨g1, cs, h2, _, h3⟩
      · cases h2
      · injection h2 with h2
        injection h2 with h2
        injection h2 with h2 _ _
        subst h2
        have := (Array.getElem?_eq_some_iff.1 h3).1
        omega
  replace HZ := Lib.hid (HZ.out.out (fun g1 h => by injection h with h; injection h with h; injection h with h _ _; rw [← h]; exact hFg) hO)
  have hg9 : g0 < w9.heap.size := by
    rcases HZ.out with h2 | ⟨g1, cs, h2, _, h3⟩
    · cases h2
    · injection h2 with h2
      injection h2 with h2
      injection h2 with h2 _ _
      subst h2
      exact (Array.getElem?_eq_some_iff.1 h3).1
  have HB := Lib.hid (show Below w.heap.size w w9 from Below.trans (show Below w.heap.size w _ from HL.out) (hO.below HF.out HL.out.size))
  clear hR2 hG hO hFg HF HL HN
  go_wp2_with fail
  refine (O.all HR.out HRT.out (by omega)).mono ?_
  rintro e w10 ⟨A, n, c, l', rfl, hv, hnc, hV, hEF, hIF, hl⟩
  have hn1 : n = 1 := by
    have h1 := congrArg List.length hv
    rw [List.length_map, hV.len] at h1
    exact h1
  subst hn1
  obtain ⟨b, o, rfl, hb, hrg, hN, _, hkc, _⟩ := hV.at_ (i := 0) (by omega)
  have hy : (l'.getD 0 zeroVd).v = ⟨1, 0, -1, [7]⟩ := by rw [← getD_vb, hv]; rfl
  have hyF := hIF (l'.getD 0 zeroVd) (by
    have e : l'.getD 0 zeroVd = l'[0]'(by rw [hV.len]; omega) := by simp [List.getD, show 0 < l'.length by rw [hV.len]; omega]
    rw [e]
    exact List.getElem_mem _)
  generalize l'.getD 0 zeroVd = y at *
  obtain ⟨y1, y2, y3, yA, yk, yc, yt⟩ := y
  obtain rfl : yt = [7] := congrArg Vb.t hy
  dsimp only at hN hyF hkc
  obtain rfl : yk = 1 := hN.len.symm
  obtain ⟨bt, ot, rfl, hbt, hct⟩ := hN.at_ (k := 0) (by omega)
  obtain ⟨bt2, ot2, e2, hlo⟩ := hyF.1 (by omega)
  have f0 : w10.frozen? ⟨bt, ot, none⟩ = false := by have h := hyF.2 bt ot 0 rfl (by omega); rw [Nat.add_zero] at h; exact h
  injection e2 with e2
  injection e2 with e2 e3 _
  subst e2 e3
  have q3 : w10.cell? ⟨b, o + 3, none⟩ = some (.slice (some ⟨bt, ot, none⟩) 1 yc) := by have h := (ver_cells hrg).2.2.2; rw [Nat.zero_mul, Nat.add_zero] at h; exact h
  have t0 : w10.cell? ⟨bt, ot, none⟩ = some (.int .i64 7) := by have h := hct 0 (by omega); rw [Nat.add_zero] at h; exact h
  have hFu := O.under HR.out
  replace HR := Lib.hid (O.keep HR.out (w' := w10.setCell ⟨bt, ot, none⟩ (.int .i64 8)) (by simp; exact hl.size) (fun k hk => (Below.heap_setCell w10 _ _ k (by have := hFu k hk; show k ≠ bt; omega)).trans (hl.block k (hFu k hk))))
  replace HZ := Lib.hid (HZ.out.low hl)
  replace HZ : Hid (NoHi (w10.setCell ⟨bt, ot, none⟩ (.int .i64 8)) (.pointer (some ⟨g0, 0, none⟩))) := Lib.hid (by
    rcases HZ.out with h2 | ⟨g1, cs, h2, hz, h3⟩
    · cases h2
    · injection h2 with h2
      injection h2 with h2
      injection h2 with h2 _ _
      subst h2
      refine .inr ⟨g0, cs, rfl, hz, (Below.heap_setCell w10 _ _ g0 (by show g0 ≠ bt; omega)).trans h3⟩)
  have hwl : w.heap.size ≤ bt := Nat.le_trans HB.out.size hlo
  replace HB := Lib.hid (show Below w.heap.size w (w10.setCell ⟨bt, ot, none⟩ (.int .i64 8)) from (HB.out.trans (hl.mono HB.out.size)).setCell (p := ⟨bt, ot, none⟩) hwl _)
  clear hl hN hct hV hIF hEF hrg hkc hyF hFu
  go_wp2_with fail
  refine (O.pairs H HR.out HRT.out (by omega) (fun v hv => by obtain rfl := List.mem_singleton.1 hv; show [(7 : Int)].length ≤ 300; simp) HH.out).mono ?_
  rintro e w11 ⟨A1, c1, rfl, hE1, _, hl⟩
  have HE := Lib.hid (show Es pairE w11 w11.heap.size A1 1 [(7, secondP [7] H)] from by
    have h : pairsH [(⟨1, 0, -1, [7]⟩ : Vb)] H = [(7, secondP [7] H)] := by show [(firstP [7] H, secondP [7] H)] = _; rw [first7]
    rw [h] at hE1
    exact hE1)
  replace HZ := Lib.hid (HZ.out.low hl)
  replace HB := Lib.hid (show Below w.heap.size w w11 from HB.out.trans (hl.mono HB.out.size))
  clear hl hE1 HR HRT
  go_wp2_with fail
  refine (Z.push now (.inl rfl) hnow).mono ?_
  rintro e w12 ⟨rfl, hl⟩
  replace HZ := Lib.hid (HZ.out.low hl)
  replace HB := Lib.hid (show Below w.heap.size w w12 from HB.out.trans (hl.mono HB.out.size))
  replace HE := Lib.hid (HE.out.low hl)
  clear hl
  go_wp2_with fail
  refine (Z.push now HZ.out hnow).mono ?_
  rintro e w13 ⟨rfl, hl⟩
  replace HZ := Lib.hid (HZ.out.low hl)
  replace HB := Lib.hid (show Below w.heap.size w w13 from HB.out.trans (hl.mono HB.out.size))
  replace HE := Lib.hid (HE.out.low hl)
  clear hl
  go_wp2_with fail
  refine (Z.free now (.inl rfl) hnow).mono ?_
  rintro e w14 ⟨rfl, hl⟩
  replace HZ := Lib.hid (HZ.out.low hl)
  replace HB := Lib.hid (show Below w.heap.size w w14 from HB.out.trans (hl.mono HB.out.size))
  replace HE := Lib.hid (HE.out.low hl)
  clear hl
  go_wp2_with fail
  refine (Z.free now HZ.out hnow).mono ?_
  rintro e w15 ⟨rfl, hl⟩
  replace HZ := Lib.hid (HZ.out.low hl)
  replace HB := Lib.hid (show Below w.heap.size w w15 from HB.out.trans (hl.mono HB.out.size))
  replace HE := Lib.hid (HE.out.low hl)
  clear hl
  go_wp2_with fail
  refine (Z.all (.inl rfl)).mono ?_
  rintro e w16 ⟨B1, d1, rfl, hl⟩
  replace HZ := Lib.hid (HZ.out.low hl)
  replace HB := Lib.hid (show Below w.heap.size w w16 from HB.out.trans (hl.mono HB.out.size))
  replace HE := Lib.hid (HE.out.low hl)
  clear hl
  go_wp2_with fail
  refine (Z.all HZ.out).mono ?_
  rintro e w17 ⟨B2, d2, rfl, hl⟩
  replace HZ := Lib.hid (HZ.out.low hl)
  replace HB := Lib.hid (show Below w.heap.size w w17 from HB.out.trans (hl.mono HB.out.size))
  replace HE := Lib.hid (HE.out.low hl)
  clear hl
  go_wp2_with fail
  refine (Z.pairs H (.inl rfl) HH.out).mono ?_
  rintro e w18 ⟨B3, d3, rfl, hl⟩
  replace HZ := Lib.hid (HZ.out.low hl)
  replace HB := Lib.hid (show Below w.heap.size w w18 from HB.out.trans (hl.mono HB.out.size))
  replace HE := Lib.hid (HE.out.low hl)
  clear hl
  obtain ⟨bp, op, rfl, hbp, _⟩ := HE.out.mem (by omega)
  have p0 : w18.cell? ⟨bp, op, none⟩ = some (.int .i64 7) := by
    have h := (HE.out.at_ (i := 0) (by omega)).2 0 _ rfl
    exact h
  go_wp2_with fail
  refine (HLV.out w18).mono ?_
  rintro e w19 ⟨rfl, hl⟩
  go_wp2_with fail
  go_ret
  exact ⟨rfl, HB.out.trans (hl.mono HB.out.size)⟩
end Go.Proofs.Ytedldebomoplmaa
