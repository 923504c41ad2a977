/- The walk of harrierlaw10.SrhBack: it answers true. Condition: at most 2^47 segments and parts, and 2^47 - 4096 bytes behind. -/
import Derived.Test.YtnfiijbnfmcpjaaSrI
import Derived.Test.YtnfiijbnfmcpjaaSrK
import Derived.Test.YtnfiijbnfmcpjaaSrL
namespace Go.Proofs.Ytnfiijbnfmcpjaa
open Go.RowKit
set_option linter.unusedVariables false

set_option maxRecDepth 100000 in
set_option maxHeartbeats 1600000 in
theorem srb_walk (s : Sr) (A : Option Addr) (m c : Nat) (ys : List Int) (w : World) (hs : s.ok w w.heap.size) (hm : m ≤ 140737488351232) (hb : Bs w w.heap.size A m ys) :
    Calls Try.prog 6 #[srV s, .slice A m c] w fun e w' => e = .returned (.bool true) ∧ Below w.heap.size w w' := by
  unfold srV
  obtain ⟨i0, hi, hz0, hz1, hz2⟩ := info_parts info5
  have HI := Lib.hid (And.intro hi (And.intro hz0 (And.intro hz1 hz2)))
  have HT := Lib.hid hs
  have HB := Lib.hid hb
  clear hs hb hi hz0 hz1 hz2
  go_enter Try.func6, Try.ntmps6
  go_wp2_with ((with_reducible refine wpList_box_sr rfl (.tmp 0) rfl s rfl ?_); intro w1 HK hL hz1; refine Hid.out ?_)
  refine Lib.hid ?_
  replace HK := Lib.hid HK
  clear hz1
  go_wp2_with (with_reducible refine wpList_load_sr rfl (.tmp 2) rfl w.heap.size rfl s HK.out ?_)
  refine (srsmall_any s w1 HT.out.gm HT.out.tm).mono ?_
  rintro e w2 ⟨rfl, hB2⟩
  replace HK := Lib.hid (HK.out.below hB2 HK.out.lt)
  replace hL := hL.trans hB2
  clear hB2
  cases hsm : smallR s
  · go_wp2_with fail
    refine (srlives_any _).mono ?_
    rintro e w3 ⟨rfl, hB3⟩
    replace hL := hL.trans hB3
    clear hB3
    go_wp2_with fail
    go_ret
    exact ⟨rfl, hL⟩
  · go_wp2_with (with_reducible refine wpList_load_sr_g rfl (.tmp 2) rfl w.heap.size rfl s HK.out ?_)
    refine (srcan_any s w2 (HT.out.low hL)).mono ?_
    rintro e w3 ⟨rfl, hB3⟩
    replace HK := Lib.hid (HK.out.below hB3 HK.out.lt)
    replace hL := hL.trans hB3
    clear hB3
    obtain ⟨x, hx⟩ : ∃ x, x = canR s.v := ⟨_, rfl⟩
    rw [← hx]
    have HX := Lib.hid hx.symm
    clear hx
    by_cases h0 : x = 0
    · subst h0
      have hsz := sizeR_bounds HX.out
      have hpl := putR_len HT.out.sg.all HX.out
      obtain ⟨p1, p2, p3⟩ := parse_putR HT.out.sg.all HX.out ys
      have HP1 := Lib.hid p1
      have HP2 := Lib.hid p2
      have HP3 := Lib.hid p3
      have HPL := Lib.hid hpl
      obtain ⟨xs, hxs⟩ : ∃ xs, xs = putR s.v := ⟨_, rfl⟩
      obtain ⟨z, hz⟩ : ∃ z, z = sizeR s.v := ⟨_, rfl⟩
      rw [← hz] at hsz HP3 HPL
      rw [← hxs] at HP1 HP2 HP3 HPL
      have HXS := Lib.hid hxs
      obtain ⟨z1, z2, z3⟩ := hsz
      have z4 : (z : Int) % 8 = 0 := by omega
      clear hpl p1 p2 p3 hxs hz z3
      go_wp2_with (with_reducible refine wpList_load_sr rfl (.tmp 2) rfl w.heap.size rfl s HK.out ?_)
      refine (srput_any s w3 (HT.out.low hL)).mono ?_
      rintro e w4 ⟨A4, c4, rfl, hown4, hB4⟩
      rw [← HXS.out, HPL.out] at hown4 ⊢
      rw [HX.out]
      have hsz3 := hL.size
      have hsz4 := hB4.size
      have hlk := HK.out.lt
      have hL4 := hL.trans hB4
      have hbs := HB.out.below' hL4 hL4.size
      have hlt2 := hown4.lt
      have hb3 : Below w3.heap.size w3 w4 := hB4
      obtain ⟨hi, hz0, hz1, hz2⟩ := HI.out
      go_wp2_with (at_builtin; refine wpList_append_bs rfl _ _ 28 rfl w3.heap.size 5 i0 Try.underlying28 hi hz0 hz1 hz2 A4 z c4 xs rfl hown4 A m c w4.heap.size ys rfl hbs (by omega) hsz4 ?_; intro A5 c5 w5 hown5 hgr hob; refine Hid.out ?_)
      refine Lib.hid ?_
      have hb5 := hb3.grown hgr hsz4 fun k e => (hlt2 k e).1
      have hsz5 := hgr.size
      have hL5 : Low w w5 := hL.trans hb5
      have hcap := hown5.cap
      simp only [maxLen] at hcap
      have HB5 := Lib.hid (hown5.bs (Nat.le_refl _))
      clear hgr hob hown5 hown4 hbs hi hz0 hz1 hz2 hlt2 hB4 hL4
      replace HK := Lib.hid (HK.out.below hb5 hlk)
      clear hb3 hb5 hL hlk hsz3 hsz4 hsz5
      go_wp2_with fail
      refine (srparse_any A5 (z + m) c5 (xs ++ ys) w5 (by omega) hcap.1 (by omega) HB5.out).mono ?_
      rintro e w6 ⟨t6, rfl, hv6, hk6, hB6⟩
      rw [HP1.out, HP3.out]
      rw [HP2.out] at hv6
      replace HK := Lib.hid (HK.out.below hB6 HK.out.lt)
      have hL6 := hL5.trans hB6
      have HV6 := Lib.hid hv6
      have HK6 := Lib.hid hk6
      clear hv6 hk6 hB6 hL5 HB5 HP1 HP2 HP3
      unfold srV
      go_wp2_with ((with_reducible refine wpList_alloc_sr rfl rfl ?_); intro w7 HZ7 hl7 hz7; refine Hid.out ?_)
      refine Lib.hid ?_
      replace HZ7 := Lib.hid HZ7
      have hlk6 := HK.out.lt
      replace HK := Lib.hid (HK.out.below hl7 HK.out.lt)
      go_wp2_with ((refine wpList_store_sr rfl (.tmp 7) (.tmp 29) rfl w6.heap.size rfl t6 rfl zeroSr HZ7.out ?_); intro w8 HG hb8 ho8 hz8; refine Hid.out ?_)
      refine Lib.hid ?_
      have hl8 : Low w6 w8 := Below.trans hl7 hb8
      replace HK := Lib.hid (HK.out.below hb8 hlk6)
      replace HK6 := Lib.hid (HK6.out.low hl8)
      replace HG := Lib.hid HG
      have hL8 : Low w w8 := Low.trans hL6 hl8
      obtain ⟨g1, hg1⟩ : ∃ g, g = w6.heap.size := ⟨_, rfl⟩
      rw [← hg1] at HG ⊢
      clear HZ7 hl7 hb8 hz7 ho8 hz8 hl8 hg1 hlk6 hL6
      go_wp2_with (with_reducible refine wpList_load_sr_g rfl (.tmp 2) rfl w.heap.size rfl s HK.out ?_)
      refine (srsize_any s w8 (HT.out.low hL8)).mono ?_
      rintro e w9 ⟨rfl, hB9⟩
      rw [← HXS.out, HPL.out]
      replace HK := Lib.hid (HK.out.below hB9 HK.out.lt)
      replace HG := Lib.hid (HG.out.below hB9 HG.out.lt)
      replace HK6 := Lib.hid (HK6.out.low hB9)
      have hL9 := hL8.trans hB9
      clear hB9 hL8
      go_wp2_with (first
        | (with_reducible refine wpList_load_sr_g rfl (.tmp 2) rfl w.heap.size rfl s HK.out ?_)
        | (with_reducible refine wpList_load_sr_g rfl (.tmp 7) rfl g1 rfl t6 HG.out ?_))
      refine (srsame_eq t6 s w9 HK6.out (HT.out.low hL9) HV6.out).mono ?_
      rintro e w10 ⟨rfl, hB10⟩
      have hL10 := hL9.trans hB10
      clear hB10 hL9 HK HG HK6
      go_wp2_with fail
      refine (srlives_any _).mono ?_
      rintro e w11 ⟨rfl, hB11⟩
      have hL11 := hL10.trans hB11
      clear hB11 hL10
      go_wp2_with fail
      go_ret
      exact ⟨rfl, hL11⟩
    · have hxb : (x != 0) = true := by simpa using h0
      go_wp2_with fail
      refine (srlives_any _).mono ?_
      rintro e w4 ⟨rfl, hB4⟩
      replace hL := hL.trans hB4
      clear hB4
      go_wp2_with fail
      go_ret
      exact ⟨rfl, hL⟩
end Go.Proofs.Ytnfiijbnfmcpjaa
