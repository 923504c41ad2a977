/- Stage 15: the program's own hash of bytes. Condition: at most 3000 bytes. -/
import Derived.Test.YtogmfhofdjiihaaKdF
import Derived.Test.YtogmfhofdjiihaaSlc
set_option maxRecDepth 100000
namespace Go.Proofs.Ytogmfhofdjiihaa
open Go.RowKit
set_option linter.unusedVariables false

theorem slc_noughtK (A : Option Addr) (c : Nat) : ∃ A', ∀ u, (Instr.sliceAt 80 (.slice A 0 c) (some (.int .i64 0)) none none).run Try.prog u = .ok (.slice A' 0 c) u := by
  have i1 : (0 : Int) ≤ c := by omega
  cases A with
  | none => exact ⟨none, fun u => by go_simp⟩
  | some ad =>
    by_cases h : c = 0
    · subst h
      exact ⟨some ad, fun u => by go_simp⟩
    · exact ⟨some ad, fun u => by go_simp⟩
/-- what is left behind place s, at most the end -/
theorem slc_restK (A : Option Addr) (n c s : Nat) (q : Int) (xs : List Int) (w : World) (B : Nat) (hb : Bs w B A n xs) (hc : n ≤ c) (hq : q = s) (h2 : s ≤ n) :
    ∃ A' c', (∀ u, (Instr.sliceAt 80 (.slice A n c) (some (.int .i64 q)) none none).run Try.prog u = .ok (.slice A' (n - s) c') u) ∧ Bs w B A' (n - s) (xs.drop s) := by
  rcases Nat.eq_zero_or_pos n with h0 | h0
  · subst h0
    obtain rfl : s = 0 := by omega
    subst hq
    obtain ⟨A', h⟩ := slc_noughtK A c
    refine ⟨A', c, h, ?_⟩
    have := List.eq_nil_of_length_eq_zero hb.len
    subst this
    exact Bs.nil _ _ _
  · obtain ⟨b, o, rfl, _, _⟩ := hb.mem h0
    obtain ⟨A', h, hA⟩ := slc_from b o n c s q hc hq h2
    exact ⟨A', _, h, hb.cutFrom h2 hA⟩

set_option maxHeartbeats 3200000 in
theorem ksum_any (a b : Int) (A : Option Addr) (n c : Nat) (xs : List Int) (w : World) (hn : n ≤ 3000) (hnc : n ≤ c) (hb : Bs w w.heap.size A n xs) :
    Calls Try.prog 60 #[keyV a b, .slice A n c] w fun e w' => e = .returned (.int .u64 (sumK a b xs)) ∧ Low w w' := by
  unfold keyV
  have HL := Lib.hid hb.len
  obtain ⟨m, hmn⟩ : ∃ m, m = n / 8 := ⟨_, rfl⟩
  have hm : (n : Int) / 8 = m := by omega
  have hm2 : m ≤ 400 := by omega
  have hm8 : 8 * m ≤ n := by omega
  have HM := Lib.hid (show xs.length / 8 = m by rw [HL.out, hmn])
  have HS := Lib.hid (sumK_done a b xs)
  rw [HM.out] at HS
  have HB := Lib.hid hb
  have hnm : n - 8 * m < 8 := by omega
  clear hmn hb
  go_enter Try.func60, Try.ntmps60
  go_wp2_with ((with_reducible refine wpList_box_v rfl _ (.tmp 0) rfl (keyC a b) rfl ?_); intro w1 HK hL hz1; refine Hid.out ?_)
  refine Lib.hid ?_
  replace HK := Lib.hid HK
  go_wp2_with ((refine wpList_load_v rfl 24 (.tmp 2) rfl w.heap.size rfl _ (keyC a b) HK.out _ Try.underlying24 rfl key_size ?_); refine Hid.out ?_)
  refine Lib.hid ?_
  go_wp2_with fail
  refine (begun_any a b w1).mono ?_
  rintro e w2 ⟨rfl, hl⟩
  replace hL := hL.trans hl
  have hz2 := hL.size
  replace hL := Lib.hid hL
  clear hl HK hz1
  go_wp2_with ((with_reducible refine wpList_alloc_v rfl _ rfl _ ws_zero ?_); intro w3 HZ hl hz3; refine Hid.out ?_)
  refine Lib.hid ?_
  replace hL := Lib.hid (hL.out.trans hl)
  replace HZ := Lib.hid HZ
  clear hl
  go_wp2_with ((refine wpList_store_v rfl _ (.tmp 5) (.tmp 9) rfl w2.heap.size rfl (wsC (beginK a b)) rfl _ _ HZ.out rfl ws_size (wsC_one _) ?_); intro w4 hG hb4 hz4; refine Hid.out ?_)
  refine Lib.hid ?_
  replace hL := Lib.hid (show Low w w4 from Below.trans hL.out (hb4.mono hz2))
  have HG : Hid (BlkW w4 w2.heap.size (beginK a b)) := Lib.hid hG
  have hz5 : w4.heap.size = w2.heap.size + 1 := by rw [hz4, hz3]
  clear HZ hb4 hz3 hz4 hG
  obtain ⟨g, hg⟩ : ∃ g, g = w2.heap.size := ⟨_, rfl⟩
  rw [← hg] at hz2 hz5 HG ⊢
  clear hg
  go_wp2_with fail
  go_loopw [14] (fun i wr => ∃ k : Nat, k ≤ m ∧ i = .int .i64 k ∧ Hid (BlkW wr g (doneK a b xs k)) ∧ Hid (Else_ g w4 wr)) (fun i _ => m - (intOf i).toNat)
  case atStart => exact ⟨0, Nat.zero_le _, rfl, HG, Lib.hid (Else_.refl _ _)⟩
  case round =>
    clear HG
    obtain ⟨k, hk, rfl, HG, HE⟩ := hrel
    have HL2 := Lib.hid (show Low w wr from Below.trans hL.out (HE.out.low.mono hz2))
    have hzr := HE.out.size
    by_cases hlt : k < m
    · obtain ⟨bb, o, rfl, _, _⟩ := HB.out.mem (by omega)
      obtain ⟨A', hr, hA⟩ := slc_both bb o n c (8 * k) (8 * (k + 1)) ((k : Int) * 8) (((k : Int) + 1) * 8) hnc (by omega) (by omega) (by omega) (by omega)
      have hch := (HB.out.below HL2.out).cut (A' := A') (s := 8 * k) (m := 8 * (k + 1)) (by omega) (by omega) hA
      have HCH := Lib.hid (hch.more (B' := wr.heap.size) (by omega))
      have HLE := Lib.hid (show leK ((xs.take (8 * (k + 1))).drop (8 * k)) = chunkK xs k by unfold chunkK; rw [List.drop_take, show 8 * (k + 1) - 8 * k = 8 by omega])
      have HR := Lib.hid hr
      have HD := Lib.hid (doneK_succ a b xs k)
      clear hr hA hch
      go_wp2_with ((refine slc_wp rfl _ _ _ _ _ rfl _ (HR.out _) ?_); refine Hid.out ?_)
      refine Lib.hid ?_
      go_wp2_with fail
      refine (kword_any A' _ _ _ wr (by omega) HCH.out).mono ?_
      rintro e wx ⟨rfl, rfl⟩
      rw [HLE.out]
      go_wp2_with fail
      refine (ktake_any g _ _ wr HG.out).mono ?_
      rintro e w5 ⟨rfl, hb5, he5⟩
      rw [← HD.out] at hb5
      have HG5 := Lib.hid hb5
      have HE5 := Lib.hid (HE.out.trans he5)
      clear hb5 he5 HG HE HCH HLE HR HD
      go_wp2_with fail
      go_roundw
      case rel => exact ⟨k + 1, by omega, by go_num, HG5, HE5⟩
      case measure => simp [intOf]; omega
    · obtain rfl : k = m := by omega
      obtain ⟨A', c', hr, hrest⟩ := slc_restK A n c (8 * k) ((k : Int) * 8) xs wr w.heap.size (HB.out.below HL2.out) hnc (by omega) hm8
      have HCH := Lib.hid (hrest.more (B' := wr.heap.size) (by omega))
      have HR := Lib.hid hr
      clear hr hrest
      go_wp2_with ((refine slc_wp rfl _ _ _ _ _ rfl _ (HR.out _) ?_); refine Hid.out ?_)
      refine Lib.hid ?_
      go_wp2_with fail
      refine (kword_any A' _ c' _ wr (by omega) HCH.out).mono ?_
      rintro e wx ⟨rfl, rfl⟩
      have hlast : bits .or .u64 (leK (xs.drop (8 * k))) (IntKind.u64.wrap ((n : Int) * 72057594037927936)) = lastK xs := by
        have h2 := last_low xs HB.out.all
        have hl := HL.out
        have hm := HM.out
        unfold lastK
        rw [hm] at h2 ⊢
        rw [hl, show IntKind.u64.wrap ((n : Int) * 72057594037927936) = ((n % 256 : Nat) : Int) * 72057594037927936 by rw [IntKind.wrap_u64]; omega]
        exact u64_or56 _ _ h2.1 h2.2 (by omega) (by omega) (by omega)
      have HLA := Lib.hid hlast
      clear hlast
      go_wp2_with fail
      rw [HLA.out]
      refine (ktake_any g _ _ wr HG.out).mono ?_
      rintro e w5 ⟨rfl, hb5, he5⟩
      go_wp2_with fail
      refine (khash_any g _ w5 hb5).mono ?_
      rintro e w6 ⟨rfl, he6⟩
      have HE6 := Lib.hid ((HE.out.trans he5).trans he6)
      clear he5 he6 hb5 HG
      go_wp2_with fail
      go_ret
      exact ⟨by rw [HS.out]; rfl, Below.trans hL.out (HE6.out.low.mono hz2)⟩
end Go.Proofs.Ytogmfhofdjiihaa
