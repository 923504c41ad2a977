/- What icmp.About answers: the error about a packet. Condition: at most 2^47 - 4096 bytes. -/
import Derived.Test.YtheagbgojdlfaaaIcA
import Derived.Test.YtheagbgojdlfaaaSxF
import Derived.Test.YtheagbgojdlfaaaOctD
import Derived.Test.YtheagbgojdlfaaaOctU
namespace Go.Proofs.Ytheagbgojdlfaaa
open Go.RowKit
set_option linter.unusedVariables false

/-- is a packet about an error? the error about it, and whether there is one -/
def holdsB (xs : List Int) : Bool := decide (getE xs = 0 ∧ (getH xs).nx = 58 ∧ 40 < xs.length ∧ xs.getD 40 0 < 128)
def aboutB (k c : Int) (xs : List Int) : Bool := decide (1 ≤ k ∧ k ≤ 4) && inB 0 255 c && !holdsB xs
def aboutM (k c wd : Int) (xs : List Int) : Mb := if aboutB k c xs = true then ⟨k, c, wd, xs.take 1232⟩ else zeroMb
theorem getE_long {xs : List Int} (h : getE xs = 0) : 40 ≤ xs.length := by
  rcases getE_cases xs with ⟨_, e, _⟩ | ⟨h1, _⟩ | ⟨h1, _⟩
  · rw [h] at e; cases e
  · exact h1
  · exact h1
theorem holdsB_cases (xs : List Int) : (¬ getE xs = 0 ∧ holdsB xs = false) ∨ (getE xs = 0 ∧ ¬ (getH xs).nx = 58 ∧ holdsB xs = false) ∨ (getE xs = 0 ∧ (getH xs).nx = 58 ∧ xs.length = 40 ∧ holdsB xs = false) ∨
    (getE xs = 0 ∧ (getH xs).nx = 58 ∧ 40 < xs.length ∧ holdsB xs = decide (xs.getD 40 0 < 128)) := by
  by_cases h1 : getE xs = 0
  · have hl := getE_long h1
    by_cases h2 : (getH xs).nx = 58
    · by_cases h3 : xs.length = 40
      · exact .inr (.inr (.inl ⟨h1, h2, h3, by unfold holdsB; simp [h3]⟩))
      · exact .inr (.inr (.inr ⟨h1, h2, by omega, by unfold holdsB; simp [h1, h2, show 40 < xs.length by omega]⟩))
    · exact .inr (.inl ⟨h1, h2, by unfold holdsB; simp [h2]⟩)
  · exact .inl ⟨h1, by unfold holdsB; simp [h1]⟩

theorem aboutM_no {k q wd : Int} {xs : List Int} (h : aboutB k q xs = false) : aboutM k q wd xs = zeroMb := by unfold aboutM; rw [h]; rfl
theorem aboutM_yes {k q wd : Int} {xs : List Int} (h : aboutB k q xs = true) : aboutM k q wd xs = ⟨k, q, wd, xs.take 1232⟩ := by unfold aboutM; rw [if_pos h]

section
variable (A : Option Addr) (n c : Nat) (xs : List Int) (w : World) (hn : n ≤ 140737488351232) (hc : n ≤ c) (hc2 : c ≤ 9223372036854775807) (hb : Bs w w.heap.size A n xs)
include hn hc hc2 hb

set_option maxRecDepth 100000 in
set_option maxHeartbeats 1600000 in
theorem holds_any : Calls Try.prog 31 #[.slice A n c] w fun e w' => e = .returned (.bool (holdsB xs)) ∧ Below w.heap.size w w' := by
  have hh := getH_ok hb.all
  have HHS := Lib.hid hh.s
  have HHD := Lib.hid hh.d
  have hl := hb.len
  have hcs := holdsB_cases xs
  rw [hl] at hcs
  have HA := Lib.hid hb.all
  go_enter Try.func31, Try.ntmps31
  go_wp2_with fail
  refine (get_any A n c xs w (by omega) hc hc2 hb).mono ?_
  rintro e w1 ⟨rfl, hL⟩
  have hb1 := hb.below' hL hL.size
  clear hb hh hl
  unfold headV
  generalize getE xs = er at *
  generalize getH xs = h at *
  go_wp2_with ((with_reducible refine wpList_alloc_v rfl 58 rfl (headC zeroH) (by kernel_rfl) ?_); intro w2 HZ hl2 hz2; refine Hid.out ?_)
  refine Lib.hid ?_
  replace HZ := Lib.hid HZ
  replace hb1 := hb1.below' hl2 (Nat.le_refl _)
  go_wp2_with ((refine wpList_store_head rfl (.tmp 3) (.tmp 9) rfl w1.heap.size rfl h rfl zeroH HZ.out rfl rfl HHS.out HHD.out ?_); intro w3 HG hb3 hz3; refine Hid.out ?_)
  refine Lib.hid ?_
  have hL3 : Low w w3 := Below.trans hL ((Below.trans hl2 hb3).mono hL.size)
  replace hb1 := hb1.below' hb3 (by omega : w1.heap.size ≤ w3.heap.size)
  have c3 : w3.cell? ⟨w1.heap.size, 3, none⟩ = some (.int .i64 h.nx) := HG.cell 3
  clear HZ HG hl2 hb3 hz2 hz3 hL
  rcases hcs with ⟨h1, e1⟩ | ⟨h1, h2, e1⟩ | ⟨h1, h2, h3, e1⟩ | ⟨h1, h2, h3, e1⟩
  · have d1 : (er != 0) = true := by simpa using h1
    have HE := Lib.hid e1
    clear h1 e1 hb1
    go_wp2_with fail
    go_ret
    exact ⟨by rw [HE.out]; rfl, hL3⟩
  · subst h1
    have d2 : (h.nx != 58) = true := by simpa using h2
    have HE := Lib.hid e1
    clear h2 e1 hb1
    go_wp2_with fail
    go_ret
    exact ⟨by rw [HE.out]; rfl, hL3⟩
  · subst h1 h3
    have d2 : (h.nx != 58) = false := by simpa using h2
    have HE := Lib.hid e1
    clear h2 e1 hb1
    go_wp2_with fail
    go_ret
    exact ⟨by rw [HE.out]; rfl, hL3⟩
  · subst h1
    have d2 : (h.nx != 58) = false := by simpa using h2
    have d3 : ((n : Int) == 40) = false := by simp; omega
    have n40 : (40 : Int) < n := by omega
    have HE := Lib.hid e1
    obtain ⟨b, o, rfl, hbl, hcell⟩ := hb1.mem (by omega)
    have c40 := hcell 40 (by omega)
    have r40 := HA.out.getD 40
    have k40 : IntKind.i64.wrap (xs.getD 40 0) = xs.getD 40 0 := wraps_i64 _ r40.1 (by omega)
    have HI : Hid (inB 0 127 (xs.getD 40 0) = holdsB xs) := Lib.hid (by rw [HE.out]; unfold inB; rw [decide_eq_decide]; omega)
    clear h2 h3 e1 hb1 hcell HE r40
    generalize xs.getD 40 0 = x at *
    go_wp2_with fail
    refine (asError_any w3).mono ?_
    rintro e w4 ⟨rfl, rfl⟩
    unfold spanF
    go_wp2_with fail
    refine (span_has 0 127 x w4).mono ?_
    rintro e w5 ⟨rfl, hB5⟩
    rw [HI.out]
    replace hL3 := Low.trans hL3 hB5
    clear c3 c40 hB5
    go_wp2_with fail
    go_ret
    exact ⟨rfl, hL3⟩

set_option maxRecDepth 100000 in
set_option maxHeartbeats 3200000 in
theorem icabout_any (k q wd : Int) (hk : i64ok k) (hq : i64ok q) (hwd : 0 ≤ wd ∧ wd < 4294967296) :
    Calls Try.prog 15 #[.int .i64 k, .int .i64 q, .int .u32 wd, .slice A n c] w (GivesMF w (aboutM k q wd xs) (.bool (aboutB k q xs))) := by
  have HBX := Lib.hid hb
  have HWD := Lib.hid hwd
  have HQ := Lib.hid hq
  have HK := Lib.hid hk
  unfold i64ok at hk
  clear hb hwd hq
  by_cases h0 : 1 ≤ k ∧ k ≤ 4
  · have H0 := Lib.hid (show decide (1 ≤ k ∧ k ≤ 4) = true from decide_eq_true h0)
    have h4 : k = 1 ∨ k = 2 ∨ k = 3 ∨ k = 4 := by omega
    clear h0 hk
    rcases h4 with e | e | e | e
    case' inl => have d1 : (k == 1) = true := by simp [e]
    case' inr.inl => have d1 : (k == 1) = false := by simp [e]
    case' inr.inl => have d2 : (k == 2) = true := by simp [e]
    case' inr.inr.inl => have d1 : (k == 1) = false := by simp [e]
    case' inr.inr.inl => have d2 : (k == 2) = false := by simp [e]
    case' inr.inr.inl => have d3 : (k == 3) = true := by simp [e]
    case' inr.inr.inr => have d1 : (k == 1) = false := by simp [e]
    case' inr.inr.inr => have d2 : (k == 2) = false := by simp [e]
    case' inr.inr.inr => have d3 : (k == 3) = false := by simp [e]
    case' inr.inr.inr => have d4 : (k == 4) = true := by simp [e]
    all_goals
      clear e
      go_enter Try.func15, Try.ntmps15
      go_wp2_with ((with_reducible refine wpList_alloc_msg rfl rfl ?_); intro w1 HZ hL hz1; refine Hid.out ?_)
      refine Lib.hid ?_
      replace HZ := Lib.hid HZ
      go_wp2_with fail
      refine (asByte_any w1).mono ?_
      rintro e w2 ⟨rfl, rfl⟩
      unfold spanF
      go_wp2_with fail
      refine (span_has 0 255 q w2).mono ?_
      rintro e w3 ⟨rfl, hB3⟩
      replace HZ := Lib.hid (HZ.out.below hB3 HZ.out.lt)
      replace hL := Low.trans hL hB3
      clear hB3 hz1
      cases hi : inB 0 255 q
      · have h := show aboutB k q xs = false by unfold aboutB; rw [hi]; simp
        have HE := Lib.hid (And.intro h (aboutM_no (wd := wd) h))
        clear h hi
        go_wp2_with ((refine wpList_store_msg rfl (.tmp 8) (.tmp 29) rfl w.heap.size rfl zeroM rfl zeroM HZ.out ?_); intro w5 HG hb5 ho5 hz5)
        exact ret_msg Try.results15 rfl rfl HG (GivesMF.of (by rw [HE.out.2]; rfl) (by rw [HE.out.1]; rfl) (zeroM_ok _ _) (Below.trans hL hb5) (zeroM_from _)) rfl
      · go_wp2_with fail
        refine (holds_any A n c xs w3 hn hc hc2 (HBX.out.below' hL hL.size)).mono ?_
        rintro e w4 ⟨rfl, hB4⟩
        replace HZ := Lib.hid (HZ.out.below hB4 HZ.out.lt)
        replace hL := Low.trans hL hB4
        clear hB4
        cases hh : holdsB xs
        · have h := show aboutB k q xs = true by unfold aboutB; rw [hi, hh, H0.out]; rfl
          have HE := Lib.hid (And.intro h (aboutM_yes (wd := wd) h))
          clear h hi hh
          go_wp2_with fail
          all_goals
            have hb4 := HBX.out.below' hL hL.size
            obtain ⟨m, hm⟩ : ∃ m, m = min n 1232 := ⟨_, rfl⟩
            refine (cut_yes A n c 0 _ 0 m xs w4 (by omega) hc hc2 hb4 rfl (by first | omega | (split <;> omega)) (by omega)).mono ?_
            rintro e w6 ⟨v, rfl, g, rfl, hg, hk6, hl6, ha6, hl⟩
            have hgz : w.heap.size < g := Nat.lt_of_lt_of_le HZ.out.lt hg
            have hxt : (xs.drop 0).take m = xs.take 1232 := by
              rw [List.drop_zero, hm]
              rcases Nat.le_total n 1232 with h1 | h1
              · rw [Nat.min_eq_left h1, List.take_of_length_le (by rw [HBX.out.len]; omega), List.take_of_length_le (by rw [HBX.out.len]; omega)]
              · rw [Nat.min_eq_right h1]
            rw [hxt] at hk6 hl6 ha6
            have hmm : m ≤ 140737488351232 := by omega
            replace HZ := Lib.hid (HZ.out.below hl HZ.out.lt)
            replace hL := Low.trans hL hl
            clear hl hb4 hg hxt hm
            generalize xs.take 1232 = ys at *
            go_wp2_with ((refine wpList_store_msg rfl (.tmp 8) (.tmp 42) rfl w.heap.size rfl ⟨k, q, wd, some ⟨g, 0, none⟩, m, m, ys⟩ rfl zeroM HZ.out ?_); intro w7 HG hb7 ho7 hz7)
            have hok : Mg.ok w7 w7.heap.size ⟨k, q, wd, some ⟨g, 0, none⟩, m, m, ys⟩ := ⟨HK.out, HQ.out, HWD.out, hmm, hk6.other ha6 (by omega) ho7 (by rw [hz7]; exact hk6.lt) hl6⟩
            exact ret_msg Try.results15 rfl rfl HG (GivesMF.of (by rw [HE.out.2]; rfl) (by rw [HE.out.1]; rfl) hok (Below.trans hL hb7) (MFrom.at_ (by omega))) rfl
        · have h := show aboutB k q xs = false by unfold aboutB; rw [hi, hh]; simp
          have HE := Lib.hid (And.intro h (aboutM_no (wd := wd) h))
          clear h hi hh
          go_wp2_with ((refine wpList_store_msg rfl (.tmp 8) (.tmp 29) rfl w.heap.size rfl zeroM rfl zeroM HZ.out ?_); intro w5 HG hb5 ho5 hz5)
          exact ret_msg Try.results15 rfl rfl HG (GivesMF.of (by rw [HE.out.2]; rfl) (by rw [HE.out.1]; rfl) (zeroM_ok _ _) (Below.trans hL hb5) (zeroM_from _)) rfl
  · have h := show aboutB k q xs = false by unfold aboutB; rw [decide_eq_false h0]; rfl
    have HE := Lib.hid (And.intro h (aboutM_no (wd := wd) h))
    have d1 : (k == 1) = false := by simp; omega
    have d2 : (k == 2) = false := by simp; omega
    have d3 : (k == 3) = false := by simp; omega
    have d4 : (k == 4) = false := by simp; omega
    clear h h0 hk
    go_enter Try.func15, Try.ntmps15
    go_wp2_with ((with_reducible refine wpList_alloc_msg rfl rfl ?_); intro w1 HZ hL hz1; refine Hid.out ?_)
    refine Lib.hid ?_
    replace HZ := Lib.hid HZ
    go_wp2_with fail
    refine (asByte_any w1).mono ?_
    rintro e w2 ⟨rfl, rfl⟩
    unfold spanF
    go_wp2_with ((refine wpList_store_msg rfl (.tmp 8) (.tmp 15) rfl w.heap.size rfl zeroM rfl zeroM HZ.out ?_); intro w5 HG hb5 ho5 hz5)
    exact ret_msg Try.results15 rfl rfl HG (GivesMF.of (by rw [HE.out.2]; rfl) (by rw [HE.out.1]; rfl) (zeroM_ok _ _) (Below.trans hL hb5) (zeroM_from _)) rfl
end
end Go.Proofs.Ytheagbgojdlfaaa
