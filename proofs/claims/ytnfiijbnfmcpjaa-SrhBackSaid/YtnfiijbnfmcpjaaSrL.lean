/- What the laws' own small test of routing headers answers: true. No condition. -/
import Derived.Test.YtnfiijbnfmcpjaaSrF
import Derived.Test.YtnfiijbnfmcpjaaSrI
namespace Go.Proofs.Ytnfiijbnfmcpjaa
open Go.RowKit
set_option linter.unusedVariables false

def one16 : List Int := [0, 0, 0, 0, 0, 0, 0, 0, 0, 0, 0, 0, 0, 0, 0, 1]
theorem one16_all : AllB one16 := fun x hx => by
  have : x = 0 ∨ x = 1 := by simpa [one16] using hx
  omega
def exRb : Rb := ⟨6, 0, 0, 0, [one16], []⟩
theorem exRb_can : canR exRb = 0 := by decide
theorem exRb_len : (putR exRb).length = 24 := by decide
theorem exRb_short : errR ((putR exRb).take 23) = 3 := by decide
theorem exRb_there : thereR [one16] 0 = true := by decide
theorem exRb_seg : segR [one16] 0 = one16 := by decide
theorem zeroRb_can : canR zeroRb = 8 := by decide
theorem zeroSr_v : zeroSr.v = zeroRb := rfl

set_option maxRecDepth 100000 in
set_option maxHeartbeats 3200000 in
theorem srlives_any (w : World) : Calls Try.prog 8 #[] w fun e w' => e = .returned (.bool true) ∧ Below w.heap.size w w' := by
  have hk0 : Blk (w.alloc (.cells #[.int .u8 0, .int .u8 0, .int .u8 0, .int .u8 0, .int .u8 0, .int .u8 0, .int .u8 0, .int .u8 0, .int .u8 0, .int .u8 0, .int .u8 0, .int .u8 0, .int .u8 0, .int .u8 0, .int .u8 0, .int .u8 1] 39)) 39 w.heap.size one16 := Blk.new w 39 one16
  have hl0 := Low.alloc w (.cells #[.int .u8 0, .int .u8 0, .int .u8 0, .int .u8 0, .int .u8 0, .int .u8 0, .int .u8 0, .int .u8 0, .int .u8 0, .int .u8 0, .int .u8 0, .int .u8 0, .int .u8 0, .int .u8 0, .int .u8 0, .int .u8 1] 39)
  have hz0 : (w.alloc (.cells #[.int .u8 0, .int .u8 0, .int .u8 0, .int .u8 0, .int .u8 0, .int .u8 0, .int .u8 0, .int .u8 0, .int .u8 0, .int .u8 0, .int .u8 0, .int .u8 0, .int .u8 0, .int .u8 0, .int .u8 0, .int .u8 1] 39)).heap.size = w.heap.size + 1 := by simp
  have hok : Sr.ok _ _ ⟨6, 0, 0, 0, some ⟨w.heap.size, 0, none⟩, 1, 1, [one16], none, 0, 0, []⟩ :=
    ⟨by simp [i64ok], by simp [i64ok], by simp [i64ok], by simp [i64ok], by simp, As.of_blk hk0 rfl one16_all hk0.lt, by simp, Os.nil _ _ _⟩
  have HOK := Lib.hid hok
  clear hok hk0
  go_enter Try.func8, Try.ntmps8
  go_wp2_with ((with_reducible refine wpList_alloc_sr rfl rfl ?_); intro w1 HZ hl1 hz1; refine Hid.out ?_)
  refine Lib.hid ?_
  generalize w.alloc (.cells #[.int .u8 0, .int .u8 0, .int .u8 0, .int .u8 0, .int .u8 0, .int .u8 0, .int .u8 0, .int .u8 0, .int .u8 0, .int .u8 0, .int .u8 0, .int .u8 0, .int .u8 0, .int .u8 0, .int .u8 0, .int .u8 1] 39) = w0 at *
  replace HOK := Lib.hid (HOK.out.below' hl1 (Nat.le_refl _))
  rw [hz0] at HZ hz1 HOK
  replace HZ := Lib.hid HZ
  replace hl1 := hl0.trans hl1
  clear hl0 hz0
  obtain ⟨s, hs⟩ : ∃ s : Sr, s = ⟨6, 0, 0, 0, some ⟨w.heap.size, 0, none⟩, 1, 1, [one16], none, 0, 0, []⟩ := ⟨_, rfl⟩
  rw [← hs] at HOK
  have HSV := Lib.hid (show .agg (srC s).toArray = Value.agg #[.int .i64 6, .int .i64 0, .int .i64 0, .int .i64 0, .slice (some ⟨w.heap.size, 0, none⟩) 1 1, .slice none 0 0] by rw [hs]; rfl)
  have HV := Lib.hid (show s.v = exRb by rw [hs]; rfl)
  have HSL := Lib.hid (show s.le = 0 by rw [hs])
  have HSG := Lib.hid (show s.sg = [one16] by rw [hs])
  clear hs
  go_wp2_with ((refine wpList_store_sr rfl (.tmp 1) (.tmp 11) rfl (w.heap.size + 1) rfl s HSV.out.symm zeroSr HZ.out ?_); intro w2 HK hb2 ho2 hz2; refine Hid.out ?_)
  refine Lib.hid ?_
  replace HOK : Hid (s.ok w2 w2.heap.size) := Lib.hid (HOK.out.below' hb2 (by omega))
  replace hl1 : Low w w2 := Below.trans hl1 (hb2.mono (by omega))
  replace HK := Lib.hid HK
  clear HZ HSV hz1 hz2 hb2 ho2
  go_wp2_with (with_reducible refine wpList_load_sr rfl (.tmp 1) rfl (w.heap.size + 1) rfl s HK.out ?_)
  refine (srput_any s w2 HOK.out).mono ?_
  rintro e w3 ⟨A3, c3, rfl, hown3, hB3⟩
  rw [HV.out] at hown3 ⊢
  have hb3 := hown3.bs (Nat.le_refl _)
  have hc3 := hown3.cap
  have HXE := Lib.hid exRb_short
  have hxl := exRb_len
  rw [exRb_can]
  generalize putR exRb = xs at *
  rw [hxl] at hb3 hc3 ⊢
  obtain ⟨b, o, rfl, hbl, -⟩ := hb3.mem (by omega)
  have HB23 : Hid (Bs w3 w3.heap.size (some ⟨b, o, none⟩) 23 (xs.take 23)) := Lib.hid (hb3.cutUpto (m := 23) (by omega))
  replace HK := Lib.hid (HK.out.below hB3 HK.out.lt)
  replace HOK := Lib.hid (HOK.out.low hB3)
  replace hl1 := hl1.trans hB3
  have hc23 : (23 : Int) ≤ c3 := by omega
  simp only [maxLen] at hc3
  clear hb3 hB3 hxl hown3
  go_wp2_with fail
  refine (srparse_any (some ⟨b, o, none⟩) 23 c3 (xs.take 23) w3 (by omega) (by omega) (by omega) HB23.out).mono ?_
  rintro e w4 ⟨t4, rfl, -, -, hB4⟩
  rw [HXE.out]
  replace HK := Lib.hid (HK.out.below hB4 HK.out.lt)
  replace HOK := Lib.hid (HOK.out.low hB4)
  replace hl1 := hl1.trans hB4
  generalize lenR (xs.take 23) = ln at *
  clear hB4 HXE HB23
  unfold srV
  go_wp2_with ((with_reducible refine wpList_alloc_sr rfl rfl ?_); intro w5 HZ5 hl5 hz5; refine Hid.out ?_)
  refine Lib.hid ?_
  replace HZ5 := Lib.hid HZ5
  have hlt4 := HK.out.lt
  replace HK := Lib.hid (HK.out.below hl5 HK.out.lt)
  go_wp2_with ((refine wpList_store_sr rfl (.tmp 4) (.tmp 24) rfl w4.heap.size rfl t4 rfl zeroSr HZ5.out ?_); intro w6 HG6 hb6 ho6 hz6; refine Hid.out ?_)
  refine Lib.hid ?_
  have hl6 : Low w4 w6 := Below.trans hl5 hb6
  replace HK := Lib.hid (HK.out.below hb6 hlt4)
  replace HOK := Lib.hid (HOK.out.low hl6)
  replace hl1 : Low w w6 := Low.trans hl1 hl6
  clear HG6 HZ5 hl5 hb6 hz5 ho6 hz6 hlt4 hl6
  go_wp2_with (with_reducible refine wpList_load_sr rfl (.tmp 1) rfl (w.heap.size + 1) rfl s HK.out ?_)
  refine (active_any s w6 HOK.out).mono ?_
  rintro e w7 ⟨rfl, hB7⟩
  rw [HSG.out, HSL.out, exRb_there, exRb_seg]
  replace HK := Lib.hid (HK.out.below hB7 HK.out.lt)
  replace HOK := Lib.hid (HOK.out.low hB7)
  replace hl1 := hl1.trans hB7
  clear hB7
  unfold addrV
  go_wp2_with ((with_reducible refine wpList_alloc_v rfl 39 rfl (cellsB zero16) addr_zeroR ?_); intro w8 HZ8 hl8 hz8; refine Hid.out ?_)
  refine Lib.hid ?_
  replace HZ8 : Hid (Blk w8 39 w7.heap.size zero16) := Lib.hid HZ8
  have hlt7 := HK.out.lt
  replace HK := Lib.hid (HK.out.below hl8 HK.out.lt)
  go_wp2_with (refine wpList_store_addr rfl (.tmp 7) (.tmp 30) rfl w7.heap.size rfl one16 rfl _ zero16 HZ8.out rfl rfl ?_; intro w9 HG9 hb9 hz9; refine Hid.out ?_)
  refine Lib.hid ?_
  have hl9 : Low w7 w9 := Below.trans hl8 hb9
  replace HK := Lib.hid (HK.out.below hb9 hlt7)
  replace HOK := Lib.hid (HOK.out.low hl9)
  replace hl1 : Low w w9 := Low.trans hl1 hl9
  replace HG9 := Lib.hid HG9
  clear HZ8 hl8 hb9 hz8 hz9 hlt7 hl9
  go_wp2_with (with_reducible refine wpList_load_sr_g rfl (.tmp 1) rfl (w.heap.size + 1) rfl s HK.out ?_)
  refine (srsize_any s w9 HOK.out).mono ?_
  rintro e w10 ⟨rfl, hB10⟩
  rw [HV.out, exRb_len]
  have c15 : w10.cell? ⟨w7.heap.size, 15, none⟩ = some (.int .u8 1) := by rw [(HG9.out.below hB10 HG9.out.lt).cell 15]; rfl
  replace hl1 := hl1.trans hB10
  clear hB10 HG9 HK
  go_wp2_with fail
  refine (srcan_any zeroSr w10 (zeroSr_ok _ _)).mono ?_
  rintro e w11 ⟨rfl, hB11⟩
  rw [zeroSr_v, zeroRb_can]
  replace hl1 := hl1.trans hB11
  clear hB11 c15
  go_wp2_with fail
  go_ret
  exact ⟨rfl, hl1⟩
end Go.Proofs.Ytnfiijbnfmcpjaa
