/- detour.must of a header, whole: the fixed header of bytes that are as many as it says, or the error with which it gives up. Condition: at most 2^47 bytes. -/
import Derived.Test.YtpaomhgdpncdoaaDtA
import Derived.Test.YtpaomhgdpncdoaaJSx
import Derived.Test.YtpaomhgdpncdoaaJSy
namespace Go.Proofs.Ytpaomhgdpncdoaa
open Go.RowKit
set_option linter.unusedVariables false

theorem results_cell1 {P : Program} {fn : Func} {p : Tmp} {ty : TypeId} (h : fn.results = #[.cell p ty]) (tmps : Array Value) (w : World) (g : Nat) (t : TypeId) (cs : Array Value) (fr : Nat × Nat) (d : TypeDesc)
    (hp : tmps.getD p undef = .pointer (some ⟨g, 0, none⟩)) (hg : w.heap[g]? = some (.cells cs t fr))
    (hu : P.underlying ty = some d) (hd : (match d with | .struct _ | .array _ _ => true | _ => false) = true) (hi : (P.info? ty).map (·.size) = some cs.size) :
    (results fn tmps).run P w = .ok (.agg cs) w := by
  have hp' : tmps[p]?.getD undef = .pointer (some ⟨g, 0, none⟩) := by simpa using hp
  simp [results, h, hp', asAddr, run_loadVar_row w g t ty cs fr d hg hu hd hi]
theorem ret_head1 {w' : World} {fn : Func} {p : Tmp} {tmps : Array Value} {df : List Deferred} {g : Nat} {h : Hd} {R : Ending → World → Prop} (hr : fn.results = #[.cell p 41]) (hp : tmps.getD p undef = .pointer (some ⟨g, 0, none⟩))
    (hb : BlkH w' g h) (hs : h.s.length = 16) (hd : h.d.length = 16) (hR : R (.returned (headV h)) w') (hdf : df = []) : bodyPost Try.prog fn R .ret ⟨tmps, df⟩ w' := by
  subst hdf
  exact bodyPost_ret (v := .agg (headC h).toArray) (results_cell1 hr _ _ g _ _ _ _ hp hb Try.underlying41 rfl (by rw [head_size]; simp [headC_length hs hd])) rfl hR

/-- the header that whole tells, or why it gives up -/
def wholeE (xs : List Int) : Int := if getE xs = 0 then (if (getL xs).ln = (xs.length : Int) - 40 then 0 else 5) else getE xs
theorem wholeE_zero {xs : List Int} (h : wholeE xs = 0) : getE xs = 0 ∧ 40 ≤ xs.length ∧ xs.getD 0 0 / 16 = 6 ∧ getH xs = getL xs ∧ (getL xs).ln = (xs.length : Int) - 40 := by
  unfold wholeE at h
  rcases getE_cases xs with ⟨h1, h2, h3⟩ | ⟨h1, h2, h3, h4⟩ | ⟨h1, h2, h3, h4⟩
  · rw [h2] at h; simp at h
  · rw [h3, if_pos rfl] at h
    refine ⟨h3, h1, h2, h4, ?_⟩
    by_cases h5 : (getL xs).ln = (xs.length : Int) - 40
    · exact h5
    · rw [if_neg h5] at h; omega
  · rw [h3] at h; simp at h

section
variable (h : Hd) (w : World) (hk : h.ok)
include hk
set_option maxRecDepth 100000 in
theorem musth_yes : Calls Try.prog 52 #[headV h, .int .i64 0] w fun e w' => e = .returned (headV h) ∧ Low w w' := by
  have HS := Lib.hid hk.s
  have HD := Lib.hid hk.d
  unfold headV
  go_enter Try.func52, Try.ntmps52
  go_wp2_with ((with_reducible refine wpList_box_v rfl 41 (.tmp 0) rfl (headC h) rfl ?_); intro w1 HB hL hz1; refine Hid.out ?_)
  refine Lib.hid ?_
  replace HB := Lib.hid HB
  clear hz1
  go_wp2_with ((with_reducible refine wpList_alloc_v rfl 41 rfl (headC zeroH) (by kernel_rfl) ?_); intro w2 HZ hl2 hz2; refine Hid.out ?_)
  refine Lib.hid ?_
  replace HZ := Lib.hid HZ
  replace HB := Lib.hid (HB.out.below hl2 HB.out.lt)
  have hL2 : Low w w2 := Low.trans hL hl2
  have hge := hL.size
  obtain ⟨g2, hg2⟩ : ∃ g, g = w1.heap.size := ⟨_, rfl⟩
  rw [← hg2] at HZ hge ⊢
  clear hl2 hL hz2 hg2
  go_wp2_with fail
  refine (demand_yes 0 w2).mono ?_
  rintro e w3 ⟨rfl, rfl⟩
  go_wp2_with (first | (with_reducible refine wpList_load_head rfl (.tmp 2) rfl w.heap.size rfl h HB.out HS.out HD.out ?_) | ((with_reducible refine wpList_store_head rfl (.tmp 4) (.tmp 9) rfl g2 rfl h rfl zeroH HZ.out rfl rfl HS.out HD.out ?_); intro w8 HG8 hb8 hz8; refine Hid.out ?_))
  refine Lib.hid ?_
  have hL8 : Low w w8 := Below.trans hL2 (hb8.mono hge)
  go_wp2_with fail
  exact ret_head1 Try.results52 rfl HG8 HS.out HD.out ⟨rfl, hL8⟩ rfl
omit hk in
set_option maxRecDepth 100000 in
theorem musth_no (er : Int) (he : er ≠ 0) : Calls Try.prog 52 #[headV h, .int .i64 er] w fun e w' => e = Thrown er ∧ Low w w' := by
  unfold headV
  go_enter Try.func52, Try.ntmps52
  go_wp2_with ((with_reducible refine wpList_box_v rfl 41 (.tmp 0) rfl (headC h) rfl ?_); intro w1 HB hL hz1; refine Hid.out ?_)
  refine Lib.hid ?_
  clear hz1
  go_wp2_with ((with_reducible refine wpList_alloc_v rfl 41 rfl (headC zeroH) (by kernel_rfl) ?_); intro w2 HZ hl2 hz2; refine Hid.out ?_)
  refine Lib.hid ?_
  have hL2 : Low w w2 := Low.trans hL hl2
  clear HZ hl2 hL hz2 HB
  have hd : (er == 0) = false := by simpa using he
  go_wp2_with fail
  refine (demand_no er w2).mono ?_
  rintro e w3 ⟨rfl, rfl⟩
  unfold Thrown
  go_wp2_with fail
  exact ⟨rfl, rfl, hL2⟩
end

section
variable (A : Option Addr) (n c : Nat) (xs : List Int) (w : World) (hn : n ≤ 140737488355328) (hc : n ≤ c) (hc2 : c ≤ 9223372036854775807) (hb : Bs w w.heap.size A n xs)
include hn hc hc2 hb
set_option maxHeartbeats 1600000 in
set_option maxRecDepth 100000 in
theorem whole_get (er : Int) (her : getE xs = er) (he : er ≠ 0) : Calls Try.prog 37 #[.slice A n c] w fun e w' => e = Thrown er ∧ Low w w' := by
  go_enter Try.func37, Try.ntmps37
  go_wp2_with ((with_reducible refine wpList_alloc_v rfl 41 rfl (headC zeroH) (by kernel_rfl) ?_); intro w1 HZ hL hz1; refine Hid.out ?_)
  refine Lib.hid ?_
  replace hL : Low w w1 := hL
  clear HZ hz1
  go_wp2_with fail
  refine (get_any A n c xs w1 hn hc hc2 (hb.below' hL hL.size)).mono ?_
  rintro e w2 ⟨rfl, hl2⟩
  rw [her]
  replace hL := hL.trans hl2
  clear hl2
  have HE := Lib.hid her
  clear her
  go_wp2_with fail
  refine (musth_no _ w2 er he).mono ?_
  rintro e w3 ⟨rfl, hl3⟩
  unfold Thrown
  replace hL := hL.trans hl3
  clear hl3
  go_wp2_with fail
  exact ⟨rfl, rfl, hL⟩
set_option maxHeartbeats 1600000 in
set_option maxRecDepth 100000 in
theorem whole_len (h : Hd) (her : getE xs = 0) (hh : getH xs = h) (h40 : 40 ≤ n) (hlen : h.ln ≠ (n : Int) - 40) : Calls Try.prog 37 #[.slice A n c] w fun e w' => e = Thrown 5 ∧ Low w w' := by
  have HO := Lib.hid (getH_ok hb.all)
  rw [hh] at HO
  have HS := Lib.hid HO.out.s
  have HD := Lib.hid HO.out.d
  go_enter Try.func37, Try.ntmps37
  go_wp2_with ((with_reducible refine wpList_alloc_v rfl 41 rfl (headC zeroH) (by kernel_rfl) ?_); intro w1 HZ hL hz1; refine Hid.out ?_)
  refine Lib.hid ?_
  replace hL : Low w w1 := hL
  clear HZ hz1
  go_wp2_with fail
  refine (get_any A n c xs w1 hn hc hc2 (hb.below' hL hL.size)).mono ?_
  rintro e w2 ⟨rfl, hl2⟩
  rw [her, hh]
  replace hL := hL.trans hl2
  clear hl2 her hh hb
  go_wp2_with fail
  refine (musth_yes _ w2 HO.out).mono ?_
  rintro e w3 ⟨rfl, hl3⟩
  unfold headV
  replace hL := hL.trans hl3
  clear hl3
  go_wp2_with ((with_reducible refine wpList_alloc_v rfl 41 rfl (headC zeroH) (by kernel_rfl) ?_); intro w4 HZ hl4 hz4; refine Hid.out ?_)
  refine Lib.hid ?_
  replace HZ := Lib.hid HZ
  have HLa : Hid (Low w w3) := Lib.hid hL
  clear hz4
  go_wp2_with ((with_reducible refine wpList_store_head rfl (.tmp 3) (.tmp 8) rfl w3.heap.size rfl h rfl zeroH HZ.out rfl rfl HS.out HD.out ?_); intro w8 HG8 hb8 hz8; refine Hid.out ?_)
  refine Lib.hid ?_
  have hl8 : Low w3 w8 := Below.trans hl4 hb8
  replace hL : Low w w8 := HLa.out.trans hl8
  have c2 := HG8.cell 2
  replace c2 : _ = some (Value.int .i64 h.ln) := c2
  have hd : (h.ln == (n : Int) - 40) = false := by simpa using hlen
  clear HG8 hb8 hz8 hl8 hl4 HZ
  go_wp2_with fail
  refine (demand_no 5 w8).mono ?_
  rintro e w9 ⟨rfl, rfl⟩
  unfold Thrown
  go_wp2_with fail
  exact ⟨rfl, rfl, hL⟩
set_option maxHeartbeats 1600000 in
set_option maxRecDepth 100000 in
theorem whole_yes (h : Hd) (her : getE xs = 0) (hh : getH xs = h) (h40 : 40 ≤ n) (hlen : h.ln = (n : Int) - 40) : Calls Try.prog 37 #[.slice A n c] w fun e w' => e = .returned (headV h) ∧ Low w w' := by
  have HO := Lib.hid (getH_ok hb.all)
  rw [hh] at HO
  have HS := Lib.hid HO.out.s
  have HD := Lib.hid HO.out.d
  go_enter Try.func37, Try.ntmps37
  go_wp2_with ((with_reducible refine wpList_alloc_v rfl 41 rfl (headC zeroH) (by kernel_rfl) ?_); intro w1 HR hL hz1; refine Hid.out ?_)
  refine Lib.hid ?_
  replace hL : Low w w1 := hL
  replace HR := Lib.hid HR
  clear hz1
  go_wp2_with fail
  refine (get_any A n c xs w1 hn hc hc2 (hb.below' hL hL.size)).mono ?_
  rintro e w2 ⟨rfl, hl2⟩
  rw [her, hh]
  replace hL := hL.trans hl2
  replace HR := Lib.hid (HR.out.below hl2 HR.out.lt)
  clear hl2 her hh hb
  go_wp2_with fail
  refine (musth_yes _ w2 HO.out).mono ?_
  rintro e w3 ⟨rfl, hl3⟩
  unfold headV
  replace hL := hL.trans hl3
  replace HR := Lib.hid (HR.out.below hl3 HR.out.lt)
  clear hl3
  go_wp2_with ((with_reducible refine wpList_alloc_v rfl 41 rfl (headC zeroH) (by kernel_rfl) ?_); intro w4 HZ hl4 hz4; refine Hid.out ?_)
  refine Lib.hid ?_
  replace HZ := Lib.hid HZ
  have HLa : Hid (Low w w3) := Lib.hid hL
  clear hz4
  go_wp2_with ((with_reducible refine wpList_store_head rfl (.tmp 3) (.tmp 8) rfl w3.heap.size rfl h rfl zeroH HZ.out rfl rfl HS.out HD.out ?_); intro w8 HG8 hb8 hz8; refine Hid.out ?_)
  refine Lib.hid ?_
  have hl8 : Low w3 w8 := Below.trans hl4 hb8
  replace hL : Low w w8 := HLa.out.trans hl8
  replace HR := Lib.hid (HR.out.below hl8 HR.out.lt)
  have c2 := HG8.cell 2
  replace c2 : _ = some (Value.int .i64 h.ln) := c2
  have hd : (h.ln == (n : Int) - 40) = true := by simpa using hlen
  replace HG8 := Lib.hid HG8
  clear hb8 hz8 hl8 hl4 HZ hlen
  go_wp2_with fail
  refine (demand_yes 5 w8).mono ?_
  rintro e w9 ⟨rfl, rfl⟩
  go_wp2_with (first | (with_reducible refine wpList_load_head rfl (.tmp 3) rfl w3.heap.size rfl h HG8.out HS.out HD.out ?_) | ((with_reducible refine wpList_store_head rfl (.tmp 2) (.tmp 16) rfl w.heap.size rfl h rfl zeroH HR.out rfl rfl HS.out HD.out ?_); intro w10 HG10 hb10 hz10; refine Hid.out ?_))
  refine Lib.hid ?_
  have hL10 : Low w w10 := Below.trans hL hb10
  go_wp2_with fail
  exact ret_head1 Try.results37 rfl HG10 HS.out HD.out ⟨rfl, hL10⟩ rfl
omit hc hc2 hn in
theorem whole_no (er : Int) (her : wholeE xs = er) (he : er ≠ 0) (hn : n ≤ 140737488355328) (hc : n ≤ c) (hc2 : c ≤ 9223372036854775807) : Calls Try.prog 37 #[.slice A n c] w fun e w' => e = Thrown er ∧ Low w w' := by
  have hl := hb.len
  unfold wholeE at her
  rcases getE_cases xs with ⟨h1, h2, h3⟩ | ⟨h1, h2, h3, h4⟩ | ⟨h1, h2, h3, h4⟩
  · rw [h2, if_neg (by omega)] at her
    exact whole_get A n c xs w hn hc hc2 hb er (h2.trans her) he
  · rw [h3, if_pos rfl] at her
    by_cases h5 : (getL xs).ln = (xs.length : Int) - 40
    · rw [if_pos h5] at her; omega
    · rw [if_neg h5] at her
      subst her
      exact whole_len A n c xs w hn hc hc2 hb _ h3 h4 (by omega) (by rw [← hl]; exact h5)
  · rw [h3, if_neg (by omega)] at her
    exact whole_get A n c xs w hn hc hc2 hb er (h3.trans her) he
theorem dwhole_any (her : wholeE xs = 0) : Calls Try.prog 37 #[.slice A n c] w fun e w' => e = .returned (headV (getL xs)) ∧ Low w w' := by
  obtain ⟨h1, h2, h3, h4, h5⟩ := wholeE_zero her
  have hl := hb.len
  exact whole_yes A n c xs w hn hc hc2 hb _ h1 h4 (by omega) (by rw [← hl]; exact h5)
end
end Go.Proofs.Ytpaomhgdpncdoaa
