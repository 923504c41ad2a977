/- What the document's About answers: the error about a packet. Condition: at most 2^47 - 4096 bytes. -/
import Derived.Test.YtheagbgojdlfaaaIcG
import Derived.Test.YtheagbgojdlfaaaSxG
import Derived.Test.YtheagbgojdlfaaaApp
import Derived.Test.YtheagbgojdlfaaaSlc
namespace Go.Proofs.Ytheagbgojdlfaaa
open Go.RowKit
set_option linter.unusedVariables false

theorem aboutB_no {k q : Int} {xs : List Int} (h : aboutB k q xs = false) : k < 1 ∨ (¬ k < 1 ∧ 4 < k) ∨ (¬ k < 1 ∧ ¬ 4 < k ∧ q < 0) ∨ (¬ k < 1 ∧ ¬ 4 < k ∧ ¬ q < 0 ∧ 255 < q) ∨
    (¬ k < 1 ∧ ¬ 4 < k ∧ ¬ q < 0 ∧ ¬ 255 < q ∧ getE xs = 0 ∧ (getH xs).nx = 58 ∧ 40 < xs.length ∧ xs.getD 40 0 < 128) := by
  have hn : ¬ ((1 ≤ k ∧ k ≤ 4) ∧ (0 ≤ q ∧ q ≤ 255) ∧ ¬ (getE xs = 0 ∧ (getH xs).nx = 58 ∧ 40 < xs.length ∧ xs.getD 40 0 < 128)) := fun hh => by
    have : aboutB k q xs = true := by
      unfold aboutB inB holdsB
      rw [decide_eq_true hh.1, decide_eq_true hh.2.1, decide_eq_false hh.2.2]
      rfl
    rw [h] at this
    cases this
  by_cases h5 : getE xs = 0 ∧ (getH xs).nx = 58 ∧ 40 < xs.length ∧ xs.getD 40 0 < 128
  · obtain ⟨a, b, c, d⟩ := h5
    omega
  · have : ¬ ((1 ≤ k ∧ k ≤ 4) ∧ (0 ≤ q ∧ q ≤ 255)) := fun hh => hn ⟨hh.1, hh.2, h5⟩
    omega
theorem aboutB_yes {k q : Int} {xs : List Int} (h : aboutB k q xs = true) : (¬ k < 1 ∧ ¬ 4 < k ∧ ¬ q < 0 ∧ ¬ 255 < q) ∧ (¬ getE xs = 0 ∨ (getE xs = 0 ∧ ¬ (getH xs).nx = 58) ∨ (getE xs = 0 ∧ (getH xs).nx = 58 ∧ ¬ 40 < xs.length) ∨ (getE xs = 0 ∧ (getH xs).nx = 58 ∧ 40 < xs.length ∧ ¬ xs.getD 40 0 < 128)) := by
  unfold aboutB inB at h
  simp only [Bool.and_eq_true, decide_eq_true_eq, Bool.not_eq_true'] at h
  obtain ⟨⟨h1, h2⟩, h3⟩ := h
  refine ⟨by omega, ?_⟩
  unfold holdsB at h3
  rw [decide_eq_false_iff_not] at h3
  by_cases a : getE xs = 0
  · by_cases b : (getH xs).nx = 58
    · by_cases c : 40 < xs.length
      · exact .inr (.inr (.inr ⟨a, b, c, fun d => h3 ⟨a, b, c, d⟩⟩))
      · exact .inr (.inr (.inl ⟨a, b, c⟩))
    · exact .inr (.inl ⟨a, b⟩)
  · exact .inl a

section
variable (A : Option Addr) (n c : Nat) (xs : List Int) (w : World) (hn : n ≤ 140737488351232) (hc : n ≤ c) (hb : Bs w w.heap.size A n xs)
include hn hb

set_option maxRecDepth 100000 in
set_option maxHeartbeats 3200000 in
theorem ricabout_no (k q wd : Int) (h : aboutB k q xs = false) :
    Calls Try.prog 16 #[.int .i64 k, .int .i64 q, .int .u32 wd, .slice A n c] w (GivesMF w (aboutM k q wd xs) (.bool (aboutB k q xs))) := by
  have hh := getH_ok hb.all
  have HHS := Lib.hid hh.s
  have HHD := Lib.hid hh.d
  have HE := Lib.hid (And.intro h (aboutM_no (wd := wd) h))
  have HA := Lib.hid hb.all
  have HBX := Lib.hid hb
  clear h hh
  go_enter Try.func16, Try.ntmps16
  go_wp2_with ((with_reducible refine wpList_alloc_msg rfl rfl ?_); intro w1 HZ hL hz1; refine Hid.out ?_)
  refine Lib.hid ?_
  replace HZ := Lib.hid HZ
  replace hb := hb.below' hL hL.size
  go_wp2_with fail
  refine (rget_any _ n c xs w1 (by omega) hb).mono ?_
  rintro e w2 ⟨rfl, hB2⟩
  replace HZ := Lib.hid (HZ.out.below hB2 HZ.out.lt)
  replace hL := Low.trans hL hB2
  clear hB2 hz1 hb
  unfold headV
  obtain ⟨er, her⟩ : ∃ er, er = getE xs := ⟨_, rfl⟩
  obtain ⟨h, hh⟩ : ∃ h, h = getH xs := ⟨_, rfl⟩
  rw [← her, ← hh]
  rw [← hh] at HHS HHD
  have HER := Lib.hid (And.intro her hh)
  clear her hh
  go_wp2_with ((with_reducible refine wpList_alloc_v rfl 58 rfl (headC zeroH) (by kernel_rfl) ?_); intro w3 HZ3 hl3 hz3; refine Hid.out ?_)
  refine Lib.hid ?_
  replace HZ3 := Lib.hid HZ3
  have hlt := HZ.out.lt
  replace HZ := Lib.hid (HZ.out.below hl3 HZ.out.lt)
  go_wp2_with ((refine wpList_store_head rfl (.tmp 10) (.tmp 15) rfl w2.heap.size rfl h rfl zeroH HZ3.out rfl rfl HHS.out HHD.out ?_); intro w4 HG hb4 hz4; refine Hid.out ?_)
  refine Lib.hid ?_
  replace HZ := Lib.hid (HZ.out.below hb4 hlt)
  replace hL : Low w w4 := Below.trans hL ((Below.trans hl3 hb4).mono hL.size)
  have c3 : w4.cell? ⟨w2.heap.size, 3, none⟩ = some (.int .i64 h.nx) := HG.cell 3
  clear HZ3 HG hl3 hb4 hz3 hz4 hlt
  have hcs := aboutB_no HE.out.1
  rw [← HER.out.1, ← HER.out.2, HBX.out.len] at hcs
  clear HER
  rcases hcs with h1 | ⟨h1, h2⟩ | ⟨h1, h2, h3⟩ | ⟨h1, h2, h3, h4⟩ | ⟨h1, h2, h3, h4, h5, h6, h7, h8⟩
  case' inl => have d1 := decide_eq_true h1
  case' inr.inl => have d1 := decide_eq_false h1; have d2 := decide_eq_true h2; clear h2
  case' inr.inr.inl => have d1 := decide_eq_false h1; have d2 := decide_eq_false h2; have d3 := decide_eq_true h3; clear h2 h3
  case' inr.inr.inr.inl => have d1 := decide_eq_false h1; have d2 := decide_eq_false h2; have d3 := decide_eq_false h3; have d4 := decide_eq_true h4; clear h2 h3 h4
  case' inr.inr.inr.inr =>
    have d1 := decide_eq_false h1; have d2 := decide_eq_false h2; have d3 := decide_eq_false h3; have d4 := decide_eq_false h4
    subst h5
    have d6 : (h.nx == 58) = true := beq_iff_eq.2 h6
    have n40 : (40 : Int) < n := by omega
    have hb5 := HBX.out.below' hL hL.size
    obtain ⟨b, o, rfl, hbl, hcell⟩ := hb5.mem (by omega)
    have c40 := hcell 40 (by omega)
    have d8 := decide_eq_true h8
    generalize xs.getD 40 0 = x at *
    clear h2 h3 h4 h6 h7 h8 hb5 hcell hbl
  all_goals
    clear h1
    go_wp2_with ((refine wpList_store_msg rfl (.tmp 8) (.tmp 51) rfl w.heap.size rfl zeroM rfl zeroM HZ.out ?_); intro w5 HG hb5 ho5 hz5)
    exact ret_msg Try.results16 rfl rfl HG (GivesMF.of (by rw [HE.out.2]; rfl) (by rw [HE.out.1]; rfl) (zeroM_ok _ _) (Below.trans hL hb5) (zeroM_from _)) rfl

set_option maxRecDepth 100000 in
set_option maxHeartbeats 3200000 in
include hc in
theorem ricabout_long (b o : Nat) (hA0 : A = some ⟨b, o, none⟩) (h1232 : 1232 < n) (k q wd : Int) (hk : i64ok k) (hq : i64ok q) (hwd : 0 ≤ wd ∧ wd < 4294967296) (h : aboutB k q xs = true) :
    Calls Try.prog 16 #[.int .i64 k, .int .i64 q, .int .u32 wd, .slice A n c] w (GivesMF w (aboutM k q wd xs) (.bool (aboutB k q xs))) := by
  subst hA0
  have HQN := Lib.hid h1232
  clear h1232
  obtain ⟨i0, hi, hz0, hz1, hz2⟩ := info_parts info5
  have hh := getH_ok hb.all
  have HHS := Lib.hid hh.s
  have HHD := Lib.hid hh.d
  have HE := Lib.hid (And.intro h (aboutM_yes (wd := wd) h))
  have HWD := Lib.hid hwd
  have HQ := Lib.hid hq
  have HK := Lib.hid hk
  have HA := Lib.hid hb.all
  have HBX := Lib.hid hb
  clear h hh hk hq hwd
  go_enter Try.func16, Try.ntmps16
  go_wp2_with ((with_reducible refine wpList_alloc_msg rfl rfl ?_); intro w1 HZ hL hzx; refine Hid.out ?_)
  refine Lib.hid ?_
  replace HZ := Lib.hid HZ
  replace hb := hb.below' hL hL.size
  go_wp2_with fail
  refine (rget_any _ n c xs w1 (by omega) hb).mono ?_
  rintro e w2 ⟨rfl, hB2⟩
  replace HZ := Lib.hid (HZ.out.below hB2 HZ.out.lt)
  replace hL := Low.trans hL hB2
  clear hB2 hzx hb
  unfold headV
  obtain ⟨er, her⟩ : ∃ er, er = getE xs := ⟨_, rfl⟩
  obtain ⟨h, hh⟩ : ∃ h, h = getH xs := ⟨_, rfl⟩
  rw [← her, ← hh]
  rw [← hh] at HHS HHD
  have HER := Lib.hid (And.intro her hh)
  clear her hh
  go_wp2_with ((with_reducible refine wpList_alloc_v rfl 58 rfl (headC zeroH) (by kernel_rfl) ?_); intro w3 HZ3 hl3 hz3; refine Hid.out ?_)
  refine Lib.hid ?_
  replace HZ3 := Lib.hid HZ3
  have hlt := HZ.out.lt
  replace HZ := Lib.hid (HZ.out.below hl3 HZ.out.lt)
  go_wp2_with ((refine wpList_store_head rfl (.tmp 10) (.tmp 15) rfl w2.heap.size rfl h rfl zeroH HZ3.out rfl rfl HHS.out HHD.out ?_); intro w4 HG hb4 hz4; refine Hid.out ?_)
  refine Lib.hid ?_
  replace HZ := Lib.hid (HZ.out.below hb4 hlt)
  replace hL : Low w w4 := Below.trans hL ((Below.trans hl3 hb4).mono hL.size)
  have c3 : w4.cell? ⟨w2.heap.size, 3, none⟩ = some (.int .i64 h.nx) := HG.cell 3
  clear HZ3 HG hl3 hb4 hz3 hz4 hlt
  have hcs := aboutB_yes HE.out.1
  rw [← HER.out.1, ← HER.out.2, HBX.out.len] at hcs
  clear HER
  obtain ⟨⟨h1, h2, h3, h4⟩, hcs⟩ := hcs
  have d1 := decide_eq_false h1
  have d2 := decide_eq_false h2
  have d3 := decide_eq_false h3
  have d4 := decide_eq_false h4
  have hb5 := HBX.out.below' hL hL.size
  clear h1 h2 h3 h4
  rcases hcs with h5 | ⟨h5, h6⟩ | ⟨h5, h6, h7⟩ | ⟨h5, h6, h7, h8⟩
  case' inl => have d5 : (er == 0) = false := beq_false_of_ne h5
  case' inr.inl =>
    have d5 : (er == 0) = true := beq_iff_eq.2 h5
    have d6 : (h.nx == 58) = false := beq_false_of_ne h6
    clear h6
  case' inr.inr.inl =>
    have d5 : (er == 0) = true := beq_iff_eq.2 h5
    have d6 : (h.nx == 58) = true := beq_iff_eq.2 h6
    have d7 : decide ((40 : Int) < n) = false := by simp; omega
    clear h6 h7
  case' inr.inr.inr =>
    have d5 : (er == 0) = true := beq_iff_eq.2 h5
    have d6 : (h.nx == 58) = true := beq_iff_eq.2 h6
    have n40 : (40 : Int) < n := by omega
    obtain ⟨b', o', e', hbl, hcell⟩ := hb5.mem (by omega)
    injection e' with e'
    injection e' with e1 e2 _
    subst e1 e2
    have c40 := hcell 40 (by omega)
    have d8 := decide_eq_false h8
    generalize xs.getD 40 0 = x at *
    clear h6 h7 h8 hcell hbl
  all_goals
    clear h5
    have dq : (1232 : Int) < n := by have := HQN.out; omega
    have hsrc := (HBX.out.below' hL hL.size).cutUpto (m := 1232) (Nat.le_of_lt HQN.out)
    have HSL := Lib.hid (slc_upto b o n c 1232 1232 hc rfl (Nat.le_of_lt HQN.out))
    have hO := OwnB.fresh (base := w4.heap.size) w4 5 (Nat.le_refl _)
    have hB0 := Low.alloc w4 (.cells #[] 5)
    replace hsrc := hsrc.below hB0
    go_wp2_with ((refine slc_wp rfl 27 (.tmp 55) none (some (.const (.int .i64 1232))) none rfl (.slice (some ⟨b, o, none⟩) 1232 c) (HSL.out w4) ?_); refine Hid.out ?_)
    refine Lib.hid ?_
    go_wp2_with (at_builtin; refine wpList_append_bs rfl (.tmp 60) (.tmp 61) _ rfl w4.heap.size 5 i0 Try.underlying27 hi hz0 hz1 hz2 _ 0 0 [] rfl hO (some ⟨b, o, none⟩) 1232 c _ _ rfl hsrc (by omega) hB0.size ?_; intro A6 c6 w6 hO6 hg6 hx6; refine Hid.out ?_)
    refine Lib.hid ?_
    have hB6 : Low w4 w6 := hB0.grown hg6 hB0.size (fun k hk => (hO.lt k hk).1)
    have hltZ := HZ.out.lt
    replace HZ := Lib.hid (HZ.out.below hB6 HZ.out.lt)
    replace hL := Low.trans hL hB6
    replace hO6 : OwnB 5 w6 w4.heap.size A6 1232 c6 (xs.take 1232) := by rw [Nat.zero_add] at hO6; exact hO6
    clear hsrc hO hB0 hg6 hx6 hB6 c3
    go_wp2_with ((refine wpList_store_msg rfl (.tmp 8) (.tmp 63) rfl w.heap.size rfl ⟨k, q, wd, A6, 1232, c6, xs.take 1232⟩ rfl zeroM HZ.out ?_); intro w7 HG hb7 ho7 hz7)
    have hok : Mg.ok w7 w7.heap.size ⟨k, q, wd, A6, 1232, c6, xs.take 1232⟩ := ⟨HK.out, HQ.out, HWD.out, by dsimp only; omega, hO6.other (g' := w.heap.size) (by omega) ho7 (by omega)⟩
    exact ret_msg Try.results16 rfl rfl HG (GivesMF.of (by rw [HE.out.2]; rfl) (by rw [HE.out.1]; rfl) hok (Below.trans hL hb7) (MFrom.own hO6 (by omega))) rfl

set_option maxRecDepth 100000 in
set_option maxHeartbeats 3200000 in
theorem ricabout_short (h1232 : n ≤ 1232) (k q wd : Int) (hk : i64ok k) (hq : i64ok q) (hwd : 0 ≤ wd ∧ wd < 4294967296) (h : aboutB k q xs = true) :
    Calls Try.prog 16 #[.int .i64 k, .int .i64 q, .int .u32 wd, .slice A n c] w (GivesMF w (aboutM k q wd xs) (.bool (aboutB k q xs))) := by
  have HQN := Lib.hid h1232
  clear h1232
  obtain ⟨i0, hi, hz0, hz1, hz2⟩ := info_parts info5
  have hh := getH_ok hb.all
  have HHS := Lib.hid hh.s
  have HHD := Lib.hid hh.d
  have HE := Lib.hid (And.intro h (aboutM_yes (wd := wd) h))
  have HWD := Lib.hid hwd
  have HQ := Lib.hid hq
  have HK := Lib.hid hk
  have HA := Lib.hid hb.all
  have HBX := Lib.hid hb
  clear h hh hk hq hwd
  go_enter Try.func16, Try.ntmps16
  go_wp2_with ((with_reducible refine wpList_alloc_msg rfl rfl ?_); intro w1 HZ hL hzx; refine Hid.out ?_)
  refine Lib.hid ?_
  replace HZ := Lib.hid HZ
  replace hb := hb.below' hL hL.size
  go_wp2_with fail
  refine (rget_any _ n c xs w1 (by omega) hb).mono ?_
  rintro e w2 ⟨rfl, hB2⟩
  replace HZ := Lib.hid (HZ.out.below hB2 HZ.out.lt)
  replace hL := Low.trans hL hB2
  clear hB2 hzx hb
  unfold headV
  obtain ⟨er, her⟩ : ∃ er, er = getE xs := ⟨_, rfl⟩
  obtain ⟨h, hh⟩ : ∃ h, h = getH xs := ⟨_, rfl⟩
  rw [← her, ← hh]
  rw [← hh] at HHS HHD
  have HER := Lib.hid (And.intro her hh)
  clear her hh
  go_wp2_with ((with_reducible refine wpList_alloc_v rfl 58 rfl (headC zeroH) (by kernel_rfl) ?_); intro w3 HZ3 hl3 hz3; refine Hid.out ?_)
  refine Lib.hid ?_
  replace HZ3 := Lib.hid HZ3
  have hlt := HZ.out.lt
  replace HZ := Lib.hid (HZ.out.below hl3 HZ.out.lt)
  go_wp2_with ((refine wpList_store_head rfl (.tmp 10) (.tmp 15) rfl w2.heap.size rfl h rfl zeroH HZ3.out rfl rfl HHS.out HHD.out ?_); intro w4 HG hb4 hz4; refine Hid.out ?_)
  refine Lib.hid ?_
  replace HZ := Lib.hid (HZ.out.below hb4 hlt)
  replace hL : Low w w4 := Below.trans hL ((Below.trans hl3 hb4).mono hL.size)
  have c3 : w4.cell? ⟨w2.heap.size, 3, none⟩ = some (.int .i64 h.nx) := HG.cell 3
  clear HZ3 HG hl3 hb4 hz3 hz4 hlt
  have hcs := aboutB_yes HE.out.1
  rw [← HER.out.1, ← HER.out.2, HBX.out.len] at hcs
  clear HER
  obtain ⟨⟨h1, h2, h3, h4⟩, hcs⟩ := hcs
  have d1 := decide_eq_false h1
  have d2 := decide_eq_false h2
  have d3 := decide_eq_false h3
  have d4 := decide_eq_false h4
  have hb5 := HBX.out.below' hL hL.size
  clear h1 h2 h3 h4
  rcases hcs with h5 | ⟨h5, h6⟩ | ⟨h5, h6, h7⟩ | ⟨h5, h6, h7, h8⟩
  case' inl => have d5 : (er == 0) = false := beq_false_of_ne h5
  case' inr.inl =>
    have d5 : (er == 0) = true := beq_iff_eq.2 h5
    have d6 : (h.nx == 58) = false := beq_false_of_ne h6
    clear h6
  case' inr.inr.inl =>
    have d5 : (er == 0) = true := beq_iff_eq.2 h5
    have d6 : (h.nx == 58) = true := beq_iff_eq.2 h6
    have d7 : decide ((40 : Int) < n) = false := by simp; omega
    clear h6 h7
  case' inr.inr.inr =>
    have d5 : (er == 0) = true := beq_iff_eq.2 h5
    have d6 : (h.nx == 58) = true := beq_iff_eq.2 h6
    have n40 : (40 : Int) < n := by omega
    obtain ⟨b, o, e', hbl, hcell⟩ := hb5.mem (by omega)
    subst e'
    have c40 := hcell 40 (by omega)
    have d8 := decide_eq_false h8
    generalize xs.getD 40 0 = x at *
    clear h6 h7 h8 hcell hbl
  all_goals
    clear h5
    have dq : ¬ (1232 : Int) < n := by have := HQN.out; omega
    have hsrc := HBX.out.below' hL hL.size
    rw [show xs = xs.take 1232 from (List.take_of_length_le (by rw [HBX.out.len]; exact HQN.out)).symm] at hsrc
    have hO := OwnB.fresh (base := w4.heap.size) w4 5 (Nat.le_refl _)
    have hB0 := Low.alloc w4 (.cells #[] 5)
    replace hsrc := hsrc.below hB0
    go_wp2_with (first
      | fail
      | (at_builtin; refine wpList_append_bs rfl (.tmp 60) (.tmp 61) _ rfl w4.heap.size 5 i0 Try.underlying27 hi hz0 hz1 hz2 _ 0 0 [] rfl hO _ n c _ _ rfl hsrc (by omega) hB0.size ?_; intro A6 c6 w6 hO6 hg6 hx6; refine Hid.out ?_))
    refine Lib.hid ?_
    have hB6 : Low w4 w6 := hB0.grown hg6 hB0.size (fun k hk => (hO.lt k hk).1)
    have hltZ := HZ.out.lt
    replace HZ := Lib.hid (HZ.out.below hB6 HZ.out.lt)
    replace hL := Low.trans hL hB6
    replace hO6 : OwnB 5 w6 w4.heap.size A6 n c6 (xs.take 1232) := by rw [Nat.zero_add] at hO6; exact hO6
    clear hsrc hO hB0 hg6 hx6 hB6 c3
    go_wp2_with ((refine wpList_store_msg rfl (.tmp 8) (.tmp 63) rfl w.heap.size rfl ⟨k, q, wd, A6, n, c6, xs.take 1232⟩ rfl zeroM HZ.out ?_); intro w7 HG hb7 ho7 hz7)
    have hok : Mg.ok w7 w7.heap.size ⟨k, q, wd, A6, n, c6, xs.take 1232⟩ := ⟨HK.out, HQ.out, HWD.out, by dsimp only; omega, hO6.other (g' := w.heap.size) (by omega) ho7 (by omega)⟩
    exact ret_msg Try.results16 rfl rfl HG (GivesMF.of (by rw [HE.out.2]; rfl) (by rw [HE.out.1]; rfl) hok (Below.trans hL hb7) (MFrom.own hO6 (by omega))) rfl

include hc in
theorem ricabout_any (k q wd : Int) (hk : i64ok k) (hq : i64ok q) (hwd : 0 ≤ wd ∧ wd < 4294967296) :
    Calls Try.prog 16 #[.int .i64 k, .int .i64 q, .int .u32 wd, .slice A n c] w (GivesMF w (aboutM k q wd xs) (.bool (aboutB k q xs))) := by
  cases h : aboutB k q xs
  · rw [← h]
    exact ricabout_no A n c xs w hn hb k q wd h
  · rw [← h]
    rcases Nat.lt_or_ge 1232 n with h1 | h1
    · obtain ⟨b, o, e, _⟩ := hb.mem (by omega)
      exact ricabout_long A n c xs w hn hc hb b o e h1 k q wd hk hq hwd h
    · exact ricabout_short A n c xs w hn hb h1 k q wd hk hq hwd h
end
end Go.Proofs.Ytheagbgojdlfaaa
