/- The document's head and Header. Condition: at most 2^47 - 4096 bytes. -/
import Derived.Test.YtpaomhgdpncdoaaDtE
import Derived.Test.YtpaomhgdpncdoaaJSrB
import Derived.Test.YtpaomhgdpncdoaaSlc
namespace Go.Proofs.Ytpaomhgdpncdoaa
open Go.RowKit
set_option linter.unusedVariables false

def wholeH (xs : List Int) : Hd := if wholeE xs = 0 then getL xs else zeroH
section
variable (A : Option Addr) (n c : Nat) (xs : List Int) (w : World) (hn : n ≤ 140737488351232) (hb : Bs w w.heap.size A n xs)
include hn hb
set_option maxHeartbeats 1600000 in
set_option maxRecDepth 100000 in
theorem rhead_any : Calls Try.prog 22 #[.slice A n c] w fun e w' => GivesH w (wholeH xs) (wholeE xs) e w' := by
  have HO := Lib.hid (getH_ok hb.all)
  have HW := Lib.hid (show wholeE xs = if getE xs = 0 then (if (getL xs).ln = (xs.length : Int) - 40 then 0 else 5) else getE xs from rfl)
  have HWH := Lib.hid (show wholeH xs = if wholeE xs = 0 then getL xs else zeroH from rfl)
  have HH := Lib.hid (show getH xs = if getE xs = 0 then getL xs else zeroH from rfl)
  rw [hb.len] at HW
  have H40 := Lib.hid (show getE xs = 0 → 40 ≤ n from fun h => by have := (getE_zero h).1; rw [hb.len] at this; exact this)
  go_enter Try.func22, Try.ntmps22
  go_wp2_with ((with_reducible refine wpList_alloc_v rfl 41 rfl (headC zeroH) (by kernel_rfl) ?_); intro w1 HR hL hz1; refine Hid.out ?_)
  refine Lib.hid ?_
  replace hL : Low w w1 := hL
  replace HR := Lib.hid HR
  clear hz1
  go_wp2_with fail
  refine (rget_any A n c xs w1 (by omega) (hb.below' hL hL.size)).mono ?_
  rintro e w2 ⟨rfl, hl2⟩
  replace hL := hL.trans hl2
  replace HR := Lib.hid (HR.out.below hl2 HR.out.lt)
  obtain ⟨h, hh⟩ : ∃ h, h = getH xs := ⟨_, rfl⟩
  obtain ⟨er, her⟩ : ∃ er, er = getE xs := ⟨_, rfl⟩
  rw [← hh] at HO HH ⊢
  rw [← her] at HW HH H40 ⊢
  clear hl2 hh her hb
  unfold headV
  have HS := Lib.hid HO.out.s
  have HD := Lib.hid HO.out.d
  go_wp2_with ((with_reducible refine wpList_alloc_v rfl 41 rfl (headC zeroH) (by kernel_rfl) ?_); intro w4 HZ hl4 hz4; refine Hid.out ?_)
  refine Lib.hid ?_
  replace HZ := Lib.hid HZ
  have HLa : Hid (Low w w2) := Lib.hid hL
  clear hz4
  go_wp2_with ((with_reducible refine wpList_store_head rfl (.tmp 4) (.tmp 9) rfl w2.heap.size rfl h rfl zeroH HZ.out rfl rfl HS.out HD.out ?_); intro w8 HG8 hb8 hz8; refine Hid.out ?_)
  refine Lib.hid ?_
  have hl8 : Low w2 w8 := Below.trans hl4 hb8
  replace hL : Low w w8 := HLa.out.trans hl8
  replace HR := Lib.hid (HR.out.below hl8 HR.out.lt)
  have c2 := HG8.cell 2
  replace c2 : _ = some (Value.int .i64 h.ln) := c2
  replace HG8 := Lib.hid HG8
  clear hb8 hz8 hl8 hl4 HZ
  by_cases he : er = 0
  · subst he
    rw [if_pos rfl] at HW HH
    have h40 := H40.out rfl
    have hwn : IntKind.i64.wrap ((n : Int) - 40) = (n : Int) - 40 := wraps_i64 _ (by omega) (by omega)
    by_cases hlen : h.ln = (n : Int) - 40
    · have hd : (h.ln != (n : Int) - 40) = false := by simpa using hlen
      have HW0 := Lib.hid (show wholeE xs = 0 by rw [HW.out, if_pos (by rw [← HH.out]; exact hlen)])
      have HWH0 := Lib.hid (show wholeH xs = h by rw [HWH.out, if_pos HW0.out, HH.out])
      clear hlen HW HWH HH
      go_wp2_with (first | (with_reducible refine wpList_load_head rfl (.tmp 4) rfl w2.heap.size rfl h HG8.out HS.out HD.out ?_) | ((with_reducible refine wpList_store_head rfl (.tmp 2) (.tmp 22) rfl w.heap.size rfl h rfl zeroH HR.out rfl rfl HS.out HD.out ?_); intro w10 HG10 hb10 hz10; refine Hid.out ?_))
      refine Lib.hid ?_
      have hL10 : Low w w10 := Below.trans hL hb10
      go_wp2_with fail
      rw [HW0.out, HWH0.out]
      exact ret_head Try.results22 rfl rfl HG10 HS.out HD.out ⟨rfl, hL10⟩ rfl
    · have hd : (h.ln != (n : Int) - 40) = true := by simpa using hlen
      have HW0 := Lib.hid (show wholeE xs = 5 by rw [HW.out, if_neg (by rw [← HH.out]; exact hlen)])
      have HWH0 := Lib.hid (show wholeH xs = zeroH by rw [HWH.out, if_neg (by rw [HW0.out]; decide)])
      clear hlen HW HWH HH
      go_wp2_with ((refine wpList_store_head rfl (.tmp 2) (.tmp 21) rfl w.heap.size rfl zeroH rfl zeroH HR.out rfl rfl rfl rfl ?_); intro w10 HG10 hb10 hz10; refine Hid.out ?_)
      refine Lib.hid ?_
      have hL10 : Low w w10 := Below.trans hL hb10
      go_wp2_with fail
      rw [HW0.out, HWH0.out]
      exact ret_head Try.results22 rfl rfl HG10 rfl rfl ⟨rfl, hL10⟩ rfl
  · have hd : (er == 0) = false := by simpa using he
    rw [if_neg he] at HW HH
    have HW0 := Lib.hid HW.out
    have HWH0 := Lib.hid (show wholeH xs = h by rw [HWH.out, if_neg (by rw [HW0.out]; exact he), HH.out])
    clear HW HWH HH
    go_wp2_with (first | (with_reducible refine wpList_load_head rfl (.tmp 4) rfl w2.heap.size rfl h HG8.out HS.out HD.out ?_) | ((with_reducible refine wpList_store_head rfl (.tmp 2) (.tmp 22) rfl w.heap.size rfl h rfl zeroH HR.out rfl rfl HS.out HD.out ?_); intro w10 HG10 hb10 hz10; refine Hid.out ?_))
    refine Lib.hid ?_
    have hL10 : Low w w10 := Below.trans hL hb10
    go_wp2_with fail
    rw [HW0.out, HWH0.out]
    exact ret_head Try.results22 rfl rfl HG10 HS.out HD.out ⟨rfl, hL10⟩ rfl
end
section
variable (A : Option Addr) (n c : Nat) (xs : List Int) (w : World) (hn : n ≤ 140737488351232) (hc : n ≤ c) (hc2 : c ≤ 9223372036854775807) (hb : Bs w w.heap.size A n xs)
include hn hc hc2 hb
set_option maxHeartbeats 3200000 in
set_option maxRecDepth 100000 in
theorem rheader_any : Calls Try.prog 8 #[.slice A n c] w (GivesHd w xs) := by
  have HB := Lib.hid hb
  have HWH := Lib.hid (show wholeH xs = if wholeE xs = 0 then getL xs else zeroH from rfl)
  have HN := Lib.hid (show hdrN xs = if hdrE xs = 0 then wideR (xs.drop 40) else 0 from rfl)
  have HR := Lib.hid (show hdrR xs = if hdrE xs = 0 then saysR (xs.drop 40) else zeroRb from rfl)
  have HOK := Lib.hid (show (wholeH xs).ok by
    unfold wholeH
    split
    · rename_i h; exact getL_ok hb.all (wholeE_zero h).2.1
    · exact zeroH_ok)
  clear hb
  go_enter Try.func8, Try.ntmps8
  go_wp2_with ((with_reducible refine wpList_alloc_sr rfl rfl ?_); intro w1 HZ hL hz1; refine Hid.out ?_)
  refine Lib.hid ?_
  replace hL : Low w w1 := hL
  have hg0 : w.heap.size < w1.heap.size := HZ.lt
  replace HZ := Lib.hid HZ
  clear hz1
  go_wp2_with fail
  refine (rhead_any A n c xs w1 hn (HB.out.below' hL hL.size)).mono ?_
  rintro e w2 ⟨rfl, hl2⟩
  replace hL := hL.trans hl2
  replace HZ := Lib.hid (HZ.out.below hl2 HZ.out.lt)
  have hg2 : w.heap.size < w2.heap.size := HZ.out.lt
  obtain ⟨h, hh⟩ : ∃ h, h = wholeH xs := ⟨_, rfl⟩
  obtain ⟨er, her⟩ : ∃ er, er = wholeE xs := ⟨_, rfl⟩
  rw [← hh] at HOK HWH ⊢
  rw [← her] at HWH ⊢
  have HER := Lib.hid her.symm
  have HS := Lib.hid HOK.out.s
  have HD := Lib.hid HOK.out.d
  clear hl2 hh her hg0
  unfold headV
  go_wp2_with ((with_reducible refine wpList_alloc_v rfl 41 rfl (headC zeroH) (by kernel_rfl) ?_); intro w4 HZ4 hl4 hz4; refine Hid.out ?_)
  refine Lib.hid ?_
  replace HZ4 := Lib.hid HZ4
  have HLa : Hid (Low w w2) := Lib.hid hL
  clear hz4
  go_wp2_with ((with_reducible refine wpList_store_head rfl (.tmp 5) (.tmp 10) rfl w2.heap.size rfl h rfl zeroH HZ4.out rfl rfl HS.out HD.out ?_); intro w8 HG8 hb8 hz8; refine Hid.out ?_)
  refine Lib.hid ?_
  have hl8 : Low w2 w8 := Below.trans hl4 hb8
  replace hL : Low w w8 := HLa.out.trans hl8
  replace HZ := Lib.hid (HZ.out.below hl8 HZ.out.lt)
  have c3 := HG8.cell 3
  replace c3 : _ = some (Value.int .i64 h.nx) := c3
  clear hb8 hz8 hl8 hl4 HZ4 HG8 HLa
  by_cases he : er = 0
  · subst he
    have h40 := (wholeE_zero HER.out).2.1
    rw [HB.out.len] at h40
    have HGL := Lib.hid (show h = getL xs by rw [HWH.out, if_pos rfl])
    by_cases hnx : h.nx = 43
    · have hd : (h.nx != 43) = false := by simpa using hnx
      have HHE := Lib.hid (hdrE_parse HER.out (by rw [← HGL.out]; exact hnx))
      obtain ⟨b, o, rfl, hbl, hcc⟩ := HB.out.mem (by omega)
      obtain ⟨A2, hs2, hA2⟩ := slc_from b o n c 40 40 hc rfl h40
      have HB2 := Lib.hid (HB.out.cutFrom h40 hA2)
      have HS2 := Lib.hid hs2
      clear hs2 hA2 hcc hbl hnx
      go_wp2_with (refine slc_wp rfl _ (.tmp 20) (some (.const (.int .i64 40))) none none rfl _ (HS2.out w8) ?_; refine Hid.out ?_)
      refine Lib.hid ?_
      go_wp2_with fail
      refine (rsrparse_any A2 (n - 40) (c - 40) (xs.drop 40) w8 (by omega) (by omega) (by omega) (HB2.out.below' hL hL.size)).mono ?_
      rintro e w9 ⟨s, rfl, hv9, hk9, hB9, hf9⟩
      have hB9' : Low w8 w9 := hB9
      have hge8 := hL.size
      have hlt8 := HZ.out.lt
      replace hL := hL.trans hB9'
      replace HZ := Lib.hid (HZ.out.below hB9' HZ.out.lt)
      have HV := Lib.hid hv9
      have HK := Lib.hid hk9
      have HF := Lib.hid hf9
      clear hv9 hk9 hf9 hB9 hB9' HB2 HS2 c3 hd
      obtain ⟨e2, he2⟩ : ∃ e2, e2 = errR (xs.drop 40) := ⟨_, rfl⟩
      obtain ⟨ln, hln⟩ : ∃ ln, ln = lenR (xs.drop 40) := ⟨_, rfl⟩
      rw [← he2, ← hln]
      have HE2 := Lib.hid he2
      have HLN := Lib.hid hln
      clear he2 hln
      unfold srV
      go_wp2_with (refine wpList_store_srB rfl (.tmp 2) (.tmp 23) rfl w.heap.size rfl s rfl zeroSr HZ.out ?_; intro w10 HG10 hb10 hz10 ho10; refine Hid.out ?_)
      refine Lib.hid ?_
      have hL10 : Low w w10 := Below.trans hL hb10
      have HK10 : Hid (s.ok w10 w10.heap.size) := Lib.hid (by rw [hz10]; exact HK.out.others HF.out fun k hk => ho10 k (by omega))
      replace HG10 := Lib.hid HG10
      clear hb10 hz10 ho10 HK HZ
      go_wp2_with fail
      refine ret_sr Try.results8 rfl rfl rfl HG10.out ⟨s, ?_, ?_, HK10.out, ⟨HF.out.sg.less hge8, HF.out.tl.lessR hge8⟩, hL10⟩ rfl
      · rw [HN.out, HHE.out, ← HE2.out, HLN.out]
        unfold lenR
        rw [← HE2.out]
      · rw [HR.out, HHE.out, HV.out]
        unfold parseR
        rfl
    · have hd : (h.nx != 43) = true := by simpa using hnx
      have HHE := Lib.hid (hdrE_kind HER.out (by rw [← HGL.out]; exact hnx))
      clear hnx
      go_wp2_with (refine wpList_store_srB rfl (.tmp 2) (.tmp 19) rfl w.heap.size rfl zeroSr rfl zeroSr HZ.out ?_; intro w10 HG10 hb10 hz10 ho10; refine Hid.out ?_)
      refine Lib.hid ?_
      have hL10 : Low w w10 := Below.trans hL hb10
      replace HG10 := Lib.hid HG10
      clear hb10 hz10 ho10
      go_wp2_with fail
      refine ret_sr Try.results8 rfl rfl rfl HG10.out ⟨zeroSr, ?_, ?_, zeroSr_ok _ _, ⟨AFrom.nil _ _, OFrom.nil _ _⟩, hL10⟩ rfl
      · rw [HN.out, HHE.out]; rfl
      · rw [HR.out, HHE.out]; rfl
  · have hd : (er != 0) = true := by simpa using he
    have HHE := Lib.hid (hdrE_whole (xs := xs) (by rw [HER.out]; exact he))
    rw [HER.out] at HHE
    go_wp2_with (refine wpList_store_srB rfl (.tmp 2) (.tmp 14) rfl w.heap.size rfl zeroSr rfl zeroSr HZ.out ?_; intro w10 HG10 hb10 hz10 ho10; refine Hid.out ?_)
    refine Lib.hid ?_
    have hL10 : Low w w10 := Below.trans hL hb10
    replace HG10 := Lib.hid HG10
    clear hb10 hz10 ho10
    go_wp2_with fail
    refine ret_sr Try.results8 rfl rfl rfl HG10.out ⟨zeroSr, ?_, ?_, zeroSr_ok _ _, ⟨AFrom.nil _ _, OFrom.nil _ _⟩, hL10⟩ rfl
    · rw [HN.out, HHE.out, if_neg he]; rfl
    · rw [HR.out, HHE.out, if_neg he]; rfl
end
end Go.Proofs.Ytpaomhgdpncdoaa
