/- What the document's Parse answers: the segment of bytes. Condition: at most 2^47 bytes. -/
import Derived.Test.YtkbgfddicpnbmaaTcK
import Derived.Test.YtkbgfddicpnbmaaTpL
import Derived.Test.YtkbgfddicpnbmaaReg3
namespace Go.Proofs.Ytkbgfddicpnbmaa
open Go.RowKit
set_option linter.unusedVariables false

theorem walkS_fork {P : Program} {ops : Array Oper} {Q : Exit → Act → World → Prop} {S : World → Prop} {i j : Nat} {p q : Plan} {a : Act} {w : World} (h1 : walkS P ops Q S (.act i p) a w) (h2 : walkS P ops Q S (.act j q) a w) : walkS P ops Q S (.fork i p j q) a w := ⟨h1, h2⟩
set_option maxHeartbeats 400000 in
theorem rftwo_any (A : Option Addr) (n c : Nat) (q : Int) (p : Nat) (xs : List Int) (w : World) (hn : n ≤ 140737488355328) (hb : Bs w w.heap.size A n xs) (hq : q = p) (h : p + 2 ≤ n) :
    Calls Try.prog 37 #[.slice A n c, .int .i64 q] w fun e w' => e = .returned (.int .i64 (num2 xs p)) ∧ ∃ k, w' = w.drewN k := by
  have HB := Lib.hid hb
  have HQ := Lib.hid hq
  clear hb hq
  go_enter Try.func37, Try.ntmps37
  go_wp2_with fail
  refine (r16_yes A n c q p xs w hn HB.out HQ.out h).mono ?_
  rintro e w1 ⟨rfl, k, rfl⟩
  obtain ⟨y, hy⟩ : ∃ y, y = num2 xs p := ⟨_, rfl⟩
  rw [← hy]
  have HY := Lib.hid hy
  clear hy h
  go_wp2_with fail
  go_ret
  exact ⟨by rw [← HY.out]; rfl, k, rfl⟩
set_option maxHeartbeats 400000 in
theorem rffour_any (A : Option Addr) (n c : Nat) (q : Int) (p : Nat) (xs : List Int) (w : World) (hn : n ≤ 140737488355328) (hb : Bs w w.heap.size A n xs) (hq : q = p) (h : p + 4 ≤ n) :
    Calls Try.prog 38 #[.slice A n c, .int .i64 q] w fun e w' => e = .returned (.int .u32 (num4 xs p)) ∧ ∃ k, w' = w.drewN k := by
  have HB := Lib.hid hb
  have HQ := Lib.hid hq
  clear hb hq
  go_enter Try.func38, Try.ntmps38
  go_wp2_with fail
  refine (r32_yes A n c q p xs w hn HB.out HQ.out h).mono ?_
  rintro e w1 ⟨rfl, k, rfl⟩
  obtain ⟨y, hy⟩ : ∃ y, y = num4 xs p := ⟨_, rfl⟩
  rw [← hy]
  have HY := Lib.hid hy
  clear hy h
  go_wp2_with fail
  go_ret
  exact ⟨by rw [← HY.out]; rfl, k, rfl⟩

set_option maxRecDepth 100000 in
set_option maxHeartbeats 1600000 in
theorem trcparse_err (A : Option Addr) (n c : Nat) (xs : List Int) (w : World) (hn : n ≤ 140737488355328) (hc : n ≤ c) (hc2 : c ≤ 9223372036854775807) (hb : Bs w w.heap.size A n xs) (h : (aheadS xs).2 ≠ 0) :
    Calls Try.prog 14 #[.slice A n c] w (GivesS w (parseS xs)) := by
  have hX : parseS xs = (zeroSb, (aheadS xs).2) := by unfold parseS; rw [if_neg h]
  have hl := hb.len
  by_cases h20 : n < 20
  · have HX := Lib.hid (show parseS xs = (zeroSb, 3) by rw [hX]; unfold aheadS; rw [if_pos (by omega)])
    clear hb h hX
    go_enter Try.func14, Try.ntmps14
    go_wp2_with ((with_reducible refine wpList_alloc_seg rfl rfl ?_); intro w1 HZ hL hz1; refine Hid.out ?_)
    refine Lib.hid ?_
    replace HZ := Lib.hid HZ
    go_wp2_with ((refine wpList_store_seg rfl (.tmp 2) (.tmp 10) rfl w.heap.size rfl zeroS rfl zeroS HZ.out ?_); intro w4 HG hb4 hz4)
    exact ret_seg Try.results14 rfl rfl HG (GivesS.of HX.out rfl (zeroS_ok _ _) (Below.trans hL hb4)) rfl
  · obtain ⟨b, o, rfl, hbl, hcc⟩ := hb.mem (by omega)
    have c12 := hcc 12 (by omega)
    have hr := hb.nonneg 12
    have n12 : (12 : Int) < n := by omega
    have hA : aheadS xs = if xs.getD 12 0 % 16 ≠ 0 ∨ xs.getD 12 0 / 16 < 5 then (0, 5) else if (n : Int) < 4 * (xs.getD 12 0 / 16) then (0, 3) else ((4 * (xs.getD 12 0 / 16)).toNat, 0) := by rw [← hl]; unfold aheadS; rw [if_neg (by omega)]
    rw [hA] at h hX
    clear hcc hb hl hA
    generalize xs.getD 12 0 = x at *
    have hq1 : 0 ≤ x / 16 ∧ x / 16 < 16 := by omega
    have hq2 : 0 ≤ x % 16 ∧ x % 16 < 16 := by omega
    by_cases hf : x % 16 = 0
    · have hfb : (x % 16 != 0) = false := by simpa using hf
      by_cases h5 : x / 16 < 5
      · rw [if_pos (Or.inr h5)] at hX
        have HX := Lib.hid hX
        clear hX h
        go_enter Try.func14, Try.ntmps14
        go_wp2_with ((with_reducible refine wpList_alloc_seg rfl rfl ?_); intro w1 HZ hL hz1; refine Hid.out ?_)
        refine Lib.hid ?_
        replace HZ := Lib.hid HZ
        replace c12 := (hL.cell (p := ⟨b, o + 12, none⟩) hbl).trans c12
        go_wp2_with ((refine wpList_store_seg rfl (.tmp 2) (.tmp 23) rfl w.heap.size rfl zeroS rfl zeroS HZ.out ?_); intro w4 HG hb4 hz4)
        exact ret_seg Try.results14 rfl rfl HG (GivesS.of HX.out rfl (zeroS_ok _ _) (Below.trans hL hb4)) rfl
      · rw [if_neg (fun h => h.elim (fun h => h hf) h5)] at hX h
        by_cases hs : (n : Int) < 4 * (x / 16)
        · rw [if_pos hs] at hX
          have HX := Lib.hid hX
          have hs' : (n : Int) < x / 16 * 4 := by omega
          clear hX h hs
          go_enter Try.func14, Try.ntmps14
          go_wp2_with ((with_reducible refine wpList_alloc_seg rfl rfl ?_); intro w1 HZ hL hz1; refine Hid.out ?_)
          refine Lib.hid ?_
          replace HZ := Lib.hid HZ
          replace c12 := (hL.cell (p := ⟨b, o + 12, none⟩) hbl).trans c12
          go_wp2_with ((refine wpList_store_seg rfl (.tmp 2) (.tmp 34) rfl w.heap.size rfl zeroS rfl zeroS HZ.out ?_); intro w4 HG hb4 hz4)
          exact ret_seg Try.results14 rfl rfl HG (GivesS.of HX.out rfl (zeroS_ok _ _) (Below.trans hL hb4)) rfl
        · rw [if_neg hs] at h
          exact absurd rfl h
    · have hfb : (x % 16 != 0) = true := by simpa using hf
      rw [if_pos (Or.inl hf)] at hX
      have HX := Lib.hid hX
      clear hX h
      go_enter Try.func14, Try.ntmps14
      go_wp2_with ((with_reducible refine wpList_alloc_seg rfl rfl ?_); intro w1 HZ hL hz1; refine Hid.out ?_)
      refine Lib.hid ?_
      replace HZ := Lib.hid HZ
      replace c12 := (hL.cell (p := ⟨b, o + 12, none⟩) hbl).trans c12
      go_wp2_with ((refine wpList_store_seg rfl (.tmp 2) (.tmp 23) rfl w.heap.size rfl zeroS rfl zeroS HZ.out ?_); intro w4 HG hb4 hz4)
      exact ret_seg Try.results14 rfl rfl HG (GivesS.of HX.out rfl (zeroS_ok _ _) (Below.trans hL hb4)) rfl
end Go.Proofs.Ytkbgfddicpnbmaa
