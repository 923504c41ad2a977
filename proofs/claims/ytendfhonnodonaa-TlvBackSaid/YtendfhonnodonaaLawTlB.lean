/- The walk of harrierlaw09.TlvBack: it answers true. Condition: at most 2^47 parts. -/
import Derived.Test.YtendfhonnodonaaTlH
import Derived.Test.YtendfhonnodonaaTlI
namespace Go.Proofs.Ytendfhonnodonaa
open Go.RowKit
set_option linter.unusedVariables false

set_option maxRecDepth 100000 in
set_option maxHeartbeats 3200000 in
theorem tlb_walk (A : Option Addr) (n c : Nat) (os : List Od) (x y : Int) (w : World) (hn : n ≤ 140737488355328) (ho : Os w w.heap.size A n os) (hx : i64ok x) (hy : i64ok y) :
    Calls Try.prog 6 #[.slice A n c, .int .i64 x, .int .i64 y] w fun e w' => e = .returned (.bool true) ∧ Below w.heap.size w w' := by
  obtain ⟨i0, hi, hz0, hz1, hz2⟩ := info_parts info5
  have HO := Lib.hid ho
  have HX := Lib.hid (And.intro hx hy)
  clear ho hx hy
  by_cases h200 : 200 < n
  · go_enter Try.func6, Try.ntmps6
    go_wp2_with fail
    refine (tllives_any _).mono ?_
    rintro e w1 ⟨rfl, hB1⟩
    go_wp2_with fail
    go_ret
    exact ⟨rfl, hB1⟩
  · go_enter Try.func6, Try.ntmps6
    go_wp2_with fail
    refine (tlcan_any A n c os w hn HO.out).mono ?_
    rintro e w0 ⟨rfl, hB0⟩
    have HO0 := Lib.hid (HO.out.below' hB0 hB0.size)
    by_cases hcan : canT (os.map Od.v) = 0
    · obtain ⟨hp1, hp2⟩ := putT_len hcan
      have HPP := Lib.hid (parse_putT hcan x y)
      have HPU := Lib.hid (fun u h => tlput_any A n c os u hn h)
      rw [hcan] at HPU ⊢
      generalize putT (os.map Od.v) = ys at *
      clear hcan
      go_wp2_with fail
      refine (HPU.out w0 HO0.out).mono ?_
      rintro e w1 ⟨A1, c1, rfl, hb1, -, hB1⟩
      obtain ⟨q, hq⟩ : ∃ q, q = ys.length := ⟨_, rfl⟩
      rw [← hq] at hb1 hp1 hp2 ⊢
      have HQ := Lib.hid hq
      have HO1 := Lib.hid (HO0.out.below' hB1 hB1.size)
      have HB1 := Lib.hid hb1
      have HLW := Lib.hid (Low.trans hB0 hB1)
      have hq8 : (q : Int) % 8 = 0 := by omega
      clear hb1 hB1 hq hB0 hp2
      go_wp2_with fail
      refine (tlpad_any x w1 HX.out.1).mono ?_
      rintro e w2 ⟨A2, c2, rfl, hown2, hB2⟩
      have hpl := padT_len_le x
      obtain ⟨zs, hzs⟩ : ∃ zs, zs = padT x := ⟨_, rfl⟩
      rw [← hzs] at hown2 hpl HPP ⊢
      obtain ⟨z, hz⟩ : ∃ z, z = zs.length := ⟨_, rfl⟩
      rw [← hz] at hown2 hpl ⊢
      have HO2 := Lib.hid (HO1.out.below' hB2 hB2.size)
      have hb1 := HB1.out.below' hB2 hB2.size
      have HL2 := Lib.hid hB2
      have hlt2 := hown2.lt
      clear hB2 hzs hz
      go_wp2_with (at_builtin; refine wpList_append_bs rfl _ _ 24 rfl w1.heap.size 5 i0 Try.underlying24 hi hz0 hz1 hz2 A2 z c2 zs rfl hown2 A1 q c1 w2.heap.size ys rfl hb1 (by omega) HL2.out.size ?_; intro A3 c3 w3 hown3 hgr hob; refine Hid.out ?_)
      refine Lib.hid ?_
      have hl3 : Low w1 w3 := HL2.out.grown hgr HL2.out.size fun k e => (hlt2 k e).1
      have HL3 := Lib.hid hl3
      clear hown2 hgr hob hb1 hl3 hlt2
      go_wp2_with fail
      refine (tlpad_any y w3 HX.out.2).mono ?_
      rintro e w4 ⟨A4, c4, rfl, hown4, hB4⟩
      have hpm := padT_len_le y
      obtain ⟨ms, hms⟩ : ∃ ms, ms = padT y := ⟨_, rfl⟩
      rw [← hms] at hown4 hpm HPP ⊢
      obtain ⟨m, hm⟩ : ∃ m, m = ms.length := ⟨_, rfl⟩
      rw [← hm] at hown4 hpm ⊢
      have hown5 := hown3.below hB4
      have hsrc := hown4.bs (Nat.le_refl _)
      have HL4 := Lib.hid (Low.trans HL3.out hB4)
      have hlt5 := hown5.lt
      clear hB4 hms hm hown3 hown4
      go_wp2_with (at_builtin; refine wpList_append_bs rfl _ _ 24 rfl w1.heap.size 5 i0 Try.underlying24 hi hz0 hz1 hz2 A3 (z + q) c3 (zs ++ ys) rfl hown5 A4 m c4 w4.heap.size ms rfl hsrc (by omega) HL4.out.size ?_; intro A6 c6 w6 hown6 hgr hob; refine Hid.out ?_)
      refine Lib.hid ?_
      have hl6 : Low w1 w6 := HL4.out.grown hgr HL4.out.size fun k e => (hlt5 k e).1
      have HOS := Lib.hid (HO1.out.below' hl6 hl6.size)
      have HLL := Lib.hid (Low.trans HLW.out hl6)
      have hcap := hown6.cap
      simp only [maxLen] at hcap
      have HB6 := Lib.hid (hown6.bs (Nat.le_refl _))
      clear hown6 hgr hob hsrc hown5 hlt5 hl6
      go_wp2_with fail
      refine (tlparse_any A6 (z + q + m) c6 (zs ++ ys ++ ms) w6 (by omega) hcap.1 (by omega) HB6.out).mono ?_
      rintro e w7 ⟨A7, c7, os7, rfl, hv7, ho7, hB7, -⟩
      rw [HPP.out] at hv7 ho7 ⊢
      dsimp only at hv7 ho7 ⊢
      have HV := Lib.hid hv7
      have HO7 := Lib.hid ho7
      have HOS7 := Lib.hid (HOS.out.below' hB7 hB7.size)
      have hL7 := Low.trans HLL.out hB7
      have hll : (os.map Od.v).length ≤ 140737488355328 := by rw [List.length_map, HO.out.len]; exact hn
      generalize (os.map Od.v).length = ll at *
      clear hv7 ho7 hB7
      go_wp2_with fail
      refine (sameT_any A7 A ll c7 n c os7 os w7 (by omega) hn HO7.out HOS7.out).mono ?_
      rintro e w8 ⟨rfl, hB8⟩
      rw [decide_eq_true HV.out]
      have hL8 := Low.trans hL7 hB8
      clear hB8 hL7
      go_wp2_with fail
      refine (tllives_any _).mono ?_
      rintro e w9 ⟨rfl, hB9⟩
      have hL9 := Low.trans hL8 hB9
      clear hB9 hL8
      go_wp2_with fail
      go_ret
      exact ⟨rfl, hL9⟩
    · have hcb : (canT (os.map Od.v) != 0) = true := by simpa using hcan
      generalize canT (os.map Od.v) = e0 at *
      clear hcan
      go_wp2_with fail
      refine (tllives_any _).mono ?_
      rintro e w1 ⟨rfl, hB1⟩
      have hL := Low.trans hB0 hB1
      clear hB1
      go_wp2_with fail
      go_ret
      exact ⟨rfl, hL⟩
end Go.Proofs.Ytendfhonnodonaa
