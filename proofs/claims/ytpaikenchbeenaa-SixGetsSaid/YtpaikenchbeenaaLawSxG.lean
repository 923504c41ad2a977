/- The laws SixGets and SixBack answer true for every input. Condition: the slice is at most 2^47 - 4096 bytes long. -/
import Derived.Test.YtpaikenchbeenaaSxM
namespace Go.Proofs.Ytpaikenchbeenaa
open Go.RowKit
set_option linter.unusedVariables false

set_option maxHeartbeats 1600000 in
set_option maxRecDepth 100000 in
theorem sxg_walk (A : Option Addr) (n c : Nat) (xs : List Int) (w : World) (hn : n ≤ 140737488351232) (hc : n ≤ c) (hc2 : c ≤ 9223372036854775807) (hb : Bs w w.heap.size A n xs) :
    Calls Try.prog 4 #[.slice A n c] w fun e w' => e = .returned (.bool true) ∧ Below w.heap.size w w' := by
  have HO := Lib.hid (getH_ok hb.all)
  have HS := Lib.hid HO.out.s
  have HD := Lib.hid HO.out.d
  have HQ := Lib.hid (eqH_refl (getH xs))
  go_enter Try.func4, Try.ntmps4
  go_wp2_with fail
  refine (get_any A n c xs w (by omega) hc hc2 hb).mono ?_
  rintro e w1 ⟨rfl, hL⟩
  replace hL : Low w w1 := hL
  unfold headV
  go_wp2_with ((with_reducible refine wpList_alloc_v rfl 25 rfl (headC zeroH) (by kernel_rfl) ?_); intro w2 HZ hl2 hz2; refine Hid.out ?_)
  refine Lib.hid ?_
  replace HZ := Lib.hid HZ
  go_wp2_with ((with_reducible refine wpList_store_head rfl (.tmp 3) (.tmp 10) rfl w1.heap.size rfl (getH xs) rfl zeroH HZ.out rfl rfl HS.out HD.out ?_); intro w3 HG3 hb3 hz3; refine Hid.out ?_)
  refine Lib.hid ?_
  have hl3 : Low w1 w3 := Below.trans hl2 hb3
  replace HG3 := Lib.hid HG3
  replace hL := hL.trans hl3
  replace hb := hb.below' hL hL.size
  clear HZ hl2 hb3 hz2 hz3 hl3
  go_wp2_with fail
  refine (rget_any A n c xs w3 (by omega) hb).mono ?_
  rintro e w4 ⟨rfl, hl⟩
  unfold headV
  replace hL := hL.trans hl
  replace HG3 := Lib.hid (HG3.out.below hl HG3.out.lt)
  have hlt3 := HG3.out.lt
  clear hl hb
  go_wp2_with ((with_reducible refine wpList_alloc_v rfl 25 rfl (headC zeroH) (by kernel_rfl) ?_); intro w5 HZ hl5 hz5; refine Hid.out ?_)
  refine Lib.hid ?_
  replace HZ := Lib.hid HZ
  go_wp2_with ((with_reducible refine wpList_store_head rfl (.tmp 5) (.tmp 15) rfl w4.heap.size rfl (getH xs) rfl zeroH HZ.out rfl rfl HS.out HD.out ?_); intro w6 HG6 hb6 hz6; refine Hid.out ?_)
  refine Lib.hid ?_
  replace HG6 := Lib.hid HG6
  have hl6 : Low w4 w6 := Below.trans hl5 hb6
  replace HG3 := Lib.hid (HG3.out.below hl6 hlt3)
  replace hL := hL.trans hl6
  clear HZ hl5 hb6 hz5 hz6 hl6
  have he := eq_head (getH xs) (getH xs) HS.out HD.out HS.out HD.out
  rw [HQ.out] at he
  generalize getE xs = er at *
  go_wp2_with (first
    | (with_reducible refine wpList_load_head rfl (.tmp 3) rfl w1.heap.size rfl (getH xs) HG3.out HS.out HD.out ?_)
    | (with_reducible refine wpList_load_head rfl (.tmp 5) rfl w4.heap.size rfl (getH xs) HG6.out HS.out HD.out ?_))
  refine (sxlives_any w6).mono ?_
  rintro e w7 ⟨rfl, hl⟩
  go_wp2_with fail
  go_ret
  exact ⟨rfl, hL.trans hl⟩

theorem headL_cons (h : Hd) (ys : List Int) : headL h ++ ys = firstN h / 16777216 :: firstN h / 65536 % 256 :: firstN h / 256 % 256 :: firstN h % 256 :: h.ln / 256 % 256 :: h.ln % 256 :: h.nx :: h.hp :: (h.s ++ (h.d ++ ys)) := by
  unfold headL four two
  simp only [List.cons_append, List.nil_append, List.append_assoc]
theorem get_back (h : Hd) (ys : List Int) (hk : h.ok) (hc : canB h = true) : getE (headL h ++ ys) = 0 ∧ getH (headL h ++ ys) = h := by
  obtain ⟨h0, h1, h2, h3, h4⟩ := can_range hc
  have hl : 40 ≤ (headL h ++ ys).length := by rw [List.length_append, headL_length hk]; omega
  have hf : (headL h ++ ys).getD 0 0 / 16 = 6 := by
    rw [headL_cons]
    show firstN h / 16777216 / 16 = 6
    unfold firstN; omega
  have hL : getL (headL h ++ ys) = h := by
    rw [headL_cons]
    obtain ⟨cl, lb, ln, nx, hp, s, d⟩ := h
    have hs : s.length = 16 := hk.s
    have hd : d.length = 16 := hk.d
    have e1 : List.take 16 (s ++ (d ++ ys)) = s := List.take_left' hs
    have e2 : List.drop 16 (s ++ (d ++ ys)) = d ++ ys := List.drop_left' hs
    have e3 : List.take 16 (d ++ ys) = d := List.take_left' hd
    unfold getL firstN
    dsimp only at h0 h1 h2 h3 h4
    simp only [List.getD_cons_zero, List.getD_cons_succ, List.drop_succ_cons, List.drop_zero]
    rw [e1, e2, e3]
    congr 1
    · omega
    · omega
    · omega
  rcases getE_cases (headL h ++ ys) with ⟨g1, e1, e2⟩ | ⟨g1, g2, e1, e2⟩ | ⟨g1, g2, e1, e2⟩
  · omega
  · exact ⟨e1, e2.trans hL⟩
  · exact absurd hf g2

set_option maxHeartbeats 1600000 in
set_option maxRecDepth 100000 in
theorem sxb_no (h : Hd) (A : Option Addr) (n c : Nat) (ys : List Int) (w : World) (hk : h.ok) (hcan : canB h = false) :
    Calls Try.prog 6 #[headV h, .slice A n c] w fun e w' => e = .returned (.bool true) ∧ Below w.heap.size w w' := by
  unfold headV
  have HO := Lib.hid hk
  have HS := Lib.hid hk.s
  have HD := Lib.hid hk.d
  have HC := Lib.hid hcan
  clear hk hcan
  go_enter Try.func6, Try.ntmps6
  go_wp2_with ((with_reducible refine wpList_box_v rfl 25 (.tmp 0) rfl (headC h) rfl ?_); intro w1 HB hL hz1; refine Hid.out ?_)
  refine Lib.hid ?_
  replace HB := Lib.hid HB
  clear hz1
  go_wp2_with (with_reducible refine wpList_load_head rfl (.tmp 2) rfl w.heap.size rfl h HB.out HS.out HD.out ?_)
  refine (can_any h w1 HO.out).mono ?_
  rintro e w2 ⟨rfl, hl⟩
  rw [show canE h = 2 by unfold canE; rw [HC.out]; rfl]
  replace HB := Lib.hid (HB.out.below hl HB.out.lt)
  replace hL := hL.trans hl
  clear hl
  go_wp2_with (with_reducible refine wpList_load_head rfl (.tmp 2) rfl w.heap.size rfl h HB.out HS.out HD.out ?_)
  refine (put_no none 0 0 [] h w2 HO.out HC.out (by omega) (Bs.nil _ _ _)).mono ?_
  rintro e w3 ⟨v, rfl, g3, rfl, hg3, hk3, hl3, ha3, hl⟩
  replace hL := hL.trans hl
  clear hl hg3 hk3 hl3 ha3
  go_wp2_with fail
  refine (sxlives_any w3).mono ?_
  rintro e w7 ⟨rfl, hl⟩
  go_wp2_with fail
  go_ret
  exact ⟨rfl, hL.trans hl⟩

set_option maxHeartbeats 1600000 in
set_option maxRecDepth 100000 in
theorem sxb_yes (h : Hd) (A : Option Addr) (n c : Nat) (ys : List Int) (w : World) (hk : h.ok) (hcan : canB h = true) (hn : n ≤ 140737488351232) (hb : Bs w w.heap.size A n ys) :
    Calls Try.prog 6 #[headV h, .slice A n c] w fun e w' => e = .returned (.bool true) ∧ Below w.heap.size w w' := by
  obtain ⟨i0, hi, hz0, hz1, hz2⟩ := info_parts info5
  have HI := Lib.hid hi
  have HZ0 := Lib.hid hz0
  have HZ1 := Lib.hid hz1
  have HZ2 := Lib.hid hz2
  clear hi hz0 hz1 hz2
  unfold headV
  have HO := Lib.hid hk
  have HS := Lib.hid hk.s
  have HD := Lib.hid hk.d
  have HC := Lib.hid hcan
  have HG := Lib.hid (get_back h ys hk hcan)
  clear hk hcan
  go_enter Try.func6, Try.ntmps6
  go_wp2_with ((with_reducible refine wpList_box_v rfl 25 (.tmp 0) rfl (headC h) rfl ?_); intro w1 HB hL hz1; refine Hid.out ?_)
  refine Lib.hid ?_
  replace HB := Lib.hid HB
  clear hz1
  go_wp2_with (with_reducible refine wpList_load_head rfl (.tmp 2) rfl w.heap.size rfl h HB.out HS.out HD.out ?_)
  refine (can_any h w1 HO.out).mono ?_
  rintro e w2 ⟨rfl, hl⟩
  rw [show canE h = 0 by unfold canE; rw [HC.out]; rfl]
  replace HB := Lib.hid (HB.out.below hl HB.out.lt)
  replace hL := hL.trans hl
  clear hl
  go_wp2_with (with_reducible refine wpList_load_head rfl (.tmp 2) rfl w.heap.size rfl h HB.out HS.out HD.out ?_)
  refine (put_yes none 0 0 [] h w2 HO.out HC.out (by omega) (Bs.nil _ _ _)).mono ?_
  rintro e w3 ⟨v, rfl, g3, rfl, hg3, hk3, hl3, ha3, hl⟩
  rw [List.nil_append] at hk3 ha3
  have hO := OwnB.ofBlk (base := w2.heap.size) (n := 40) hk3 ha3 hg3 (headL_length HO.out) (by unfold maxLen; omega)
  have hL2 : Low w w2 := hL
  have hB : Below w2.heap.size w2 w3 := hl
  have hb3 := Lib.hid (hb.below' (hL2.trans hl) (hL2.trans hl).size)
  have hgs := HB.out.lt
  clear hl hg3 hk3 hl3 ha3 hL
  go_wp2_with (at_builtin; refine wpList_append_bs rfl (.tmp 19) (.tmp 20) _ rfl w2.heap.size 5 i0 Try.underlying26 HI.out HZ0.out HZ1.out HZ2.out _ 40 _ _ rfl hO _ n _ _ ys rfl hb3.out (by omega) hB.size ?_; intro A4 c4 w4 hO4 hg4 hb4; refine Hid.out ?_)
  refine Lib.hid ?_
  replace hB : Below w2.heap.size w2 w4 := hB.grown hg4 hB.size (fun k hk => (hO.lt k hk).1)
  replace HB := Lib.hid (HB.out.below hB hgs)
  have hL : Low w w4 := Below.trans hL2 (hB.mono hL2.size)
  have hcap := hO4.cap
  have hcap2 : c4 ≤ 9223372036854775807 := by simpa [maxLen] using hcap.2
  have hb5 := Lib.hid (hO4.bs (Nat.le_refl _))
  clear hO4 hg4 hb4 hO hB hb3
  go_wp2_with fail
  refine (get_any A4 (40 + n) c4 _ w4 (by omega) hcap.1 hcap2 hb5.out).mono ?_
  rintro e w5 ⟨rfl, hl⟩
  rw [HG.out.1, HG.out.2]
  unfold headV
  replace HB := Lib.hid (HB.out.below hl HB.out.lt)
  have hgs := HB.out.lt
  replace hL := hL.trans hl
  clear hl hb5
  go_wp2_with ((with_reducible refine wpList_alloc_v rfl 25 rfl (headC zeroH) (by kernel_rfl) ?_); intro w6 HZ hl6 hz6; refine Hid.out ?_)
  refine Lib.hid ?_
  replace HZ := Lib.hid HZ
  go_wp2_with ((with_reducible refine wpList_store_head rfl (.tmp 5) (.tmp 23) rfl w5.heap.size rfl h rfl zeroH HZ.out rfl rfl HS.out HD.out ?_); intro w7 HG7 hb7 hz7; refine Hid.out ?_)
  refine Lib.hid ?_
  have hl7 : Low w5 w7 := Below.trans hl6 hb7
  replace HB := Lib.hid (HB.out.below hl7 hgs)
  replace HG7 := Lib.hid HG7
  replace hL := hL.trans hl7
  have he := eq_head h h HS.out HD.out HS.out HD.out
  rw [eqH_refl] at he
  clear hl6 hb7 hz6 hz7 hl7 HZ
  go_wp2_with (first
    | (with_reducible refine wpList_load_head rfl (.tmp 5) rfl w5.heap.size rfl h HG7.out HS.out HD.out ?_)
    | (with_reducible refine wpList_load_head rfl (.tmp 2) rfl w.heap.size rfl h HB.out HS.out HD.out ?_))
  refine (sxlives_any w7).mono ?_
  rintro e w8 ⟨rfl, hl⟩
  go_wp2_with fail
  go_ret
  exact ⟨rfl, hL.trans hl⟩
theorem sxb_walk (h : Hd) (A : Option Addr) (n c : Nat) (ys : List Int) (w : World) (hk : h.ok) (hn : n ≤ 140737488351232) (hb : Bs w w.heap.size A n ys) :
    Calls Try.prog 6 #[headV h, .slice A n c] w fun e w' => e = .returned (.bool true) ∧ Below w.heap.size w w' := by
  by_cases hc : canB h = true
  · exact sxb_yes h A n c ys w hk hc hn hb
  · exact sxb_no h A n c ys w hk (by simpa using hc)
end Go.Proofs.Ytpaikenchbeenaa
