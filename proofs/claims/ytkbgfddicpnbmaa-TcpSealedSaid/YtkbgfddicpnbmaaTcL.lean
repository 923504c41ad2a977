/- What tcp.Parse answers: the segment of bytes. Condition: at most 2^47 bytes. -/
import Derived.Test.YtkbgfddicpnbmaaTcK
namespace Go.Proofs.Ytkbgfddicpnbmaa
open Go.RowKit
set_option linter.unusedVariables false

theorem tcpart_size : (Try.prog.info? 63).map (·.size) = some 2 := by kernel_rfl
theorem tcpart_zero : (Try.prog.info? 63).map (·.zero) = some (some (.agg [Value.int .i64 0, Value.nilFunc].toArray)) := by kernel_rfl

set_option maxRecDepth 100000 in
set_option maxHeartbeats 1600000 in
theorem tcparse_yes (A : Option Addr) (n c : Nat) (xs : List Int) (w : World) (hn0 : n ≤ 140737488351232) (hc : n ≤ c) (hc2 : c ≤ 9223372036854775807) (hb : Bs w w.heap.size A n xs) (h : (aheadS xs).2 = 0) :
    Calls Try.prog 13 #[.slice A n c] w (GivesS w (parseS xs)) := by
  have hn : n ≤ 140737488355328 := by omega
  have HX := Lib.hid (show parseS xs = if (parseL ((xs.take (aheadS xs).1).drop 20)).2 = 0 then (segS xs (aheadS xs).1 (parseL ((xs.take (aheadS xs).1).drop 20)).1, 0) else (zeroSb, (parseL ((xs.take (aheadS xs).1).drop 20)).2) by unfold parseS; rw [if_pos h])
  obtain ⟨hm1, hm2, hm3⟩ := aheadS_ok hb.all h
  rw [hb.len] at hm3
  have HA := Lib.hid h
  clear h
  obtain ⟨b, o, rfl, hbl, -⟩ := hb.mem (by omega)
  have HB := Lib.hid hb
  go_enter Try.func13, Try.ntmps13
  go_wp2_with ((with_reducible refine wpList_alloc_seg rfl rfl ?_); intro w1 HZ hL hz1; refine Hid.out ?_)
  refine Lib.hid ?_
  replace HZ := Lib.hid HZ
  replace hb := hb.below' hL hL.size
  go_wp2_with fail
  refine (ahead_any _ n c xs w1 hn hb).mono ?_
  rintro e w2 ⟨rfl, k, rfl⟩
  rw [HA.out]
  replace HZ : Hid (BlkS (w1.drewN k) w.heap.size zeroS) := HZ
  replace hL := below_drewN hL k
  have hsz3 : (w1.drewN k).heap.size = w.heap.size + 1 := hz1
  clear hb hz1
  generalize w1.drewN k = w3 at *
  obtain ⟨m, hm⟩ : ∃ m, m = (aheadS xs).1 := ⟨_, rfl⟩
  rw [← hm] at HX hm1 hm2 hm3 ⊢
  clear hm HA
  obtain ⟨A', hcut, hA'⟩ := run_mid b o n c m hn hm1 hm3 hc hc2
  have hmid := (HB.out.below' hL hL.size).at_mid (s := 20) (m := m) hm1 hm3 hA'
  have HCUT := Lib.hid (hcut w3)
  clear hA' hcut
  generalize (xs.take m).drop 20 = ys at *
  go_wp2_with ((refine wpList_slice rfl 24 (.tmp 20) (some (.const (.int .i64 20))) (some (.tmp 21)) none rfl (.slice A' (m - 20) (c - 20)) HCUT.out ?_); refine Hid.out ?_)
  refine Lib.hid ?_
  go_wp2_with fail
  refine (tparse_any A' (m - 20) (c - 20) ys w3 (by omega) (by omega) (by omega) hmid).mono ?_
  rintro e w4 ⟨oA, oc, os, rfl, hov, hos, hB4, hof⟩
  have hrl := parseL_len ys
  generalize parseL ys = r at *
  obtain ⟨ol, re⟩ := r
  dsimp only at hov hos hof hrl HX ⊢
  replace HZ := Lib.hid (HZ.out.below hB4 HZ.out.lt)
  have hL4 : Low w w4 := Below.trans hL (hB4.mono hL.size)
  clear hmid HCUT hB4
  by_cases hre : re = 0
  · rw [if_pos hre] at HX
    subst hre
    obtain ⟨om, hom⟩ : ∃ om, om = ol.length := ⟨_, rfl⟩
    rw [← hom] at hos hof hrl ⊢
    clear hom
    have HOF := Lib.hid hof
    have hR3 : w.heap.size < w3.heap.size := by rw [hsz3]; omega
    clear hof hsz3
    have HOS := Lib.hid hos
    have HOV := Lib.hid hov
    clear hos hov hL
    go_wp2_with ((with_reducible refine wpList_alloc_seg rfl rfl ?_); intro w5 HN hL5 hz5; refine Hid.out ?_)
    refine Lib.hid ?_
    replace HN := Lib.hid HN
    go_wp2_with ((refine wpList_store_seg rfl (.tmp 7) (.tmp 31) rfl w4.heap.size rfl (segAt xs oA om oc os 0) rfl zeroS HN.out ?_); intro w6 HT hb6 hz6; refine Hid.out ?_)
    refine Lib.hid ?_
    replace hL5 : Low w4 w6 := Below.trans hL5 hb6
    replace HT := Lib.hid HT
    clear HN hb6
    go_wp2_with fail
    refine (parts_any w6).mono ?_
    rintro e w7 ⟨rfl, hP, hL7, hz7⟩
    replace hL5 := Low.trans hL5 hL7
    replace HT := Lib.hid (HT.out.below hL7 HT.out.lt)
    rw [hz6, hz5] at hP ⊢
    have hsz : w7.heap.size = w4.heap.size + 2 := by omega
    have HP := Lib.hid hP
    clear hP hL7 hz5 hz6 hz7
    go_wp2_with fail
    go_loopw [34] (fun i wr => ∃ k : Nat, k ≤ 8 ∧ i = .int .i64 k ∧ Hid (BlkS wr w4.heap.size (segAt xs oA om oc os k) ∧ BlkV wr 63 (w4.heap.size + 1) partsC ∧ Low w4 wr)) (fun i _ => 8 - (intOf i).toNat)
    case atStart => exact ⟨0, by omega, rfl, Lib.hid ⟨HT.out, HP.out, hL5⟩⟩
    case round =>
      clear HT HP hL5 hsz
      obtain ⟨k, hk, rfl, HR⟩ := hrel
      obtain rfl | rfl | rfl | rfl | rfl | rfl | rfl | rfl | rfl : k = 0 ∨ k = 1 ∨ k = 2 ∨ k = 3 ∨ k = 4 ∨ k = 5 ∨ k = 6 ∨ k = 7 ∨ k = 8 := by omega
      · have d0 : wr.cell? ⟨w4.heap.size + 1, 0, none⟩ = some (.int .i64 0) := HR.out.2.1.cell 0
        have d1 : wr.cell? ⟨w4.heap.size + 1, 1, none⟩ = some (.func (.func 56) #[] #[]) := HR.out.2.1.cell 1
        go_wp2_with (first
          | ((with_reducible refine wpList_alloc_v rfl 63 rfl [.int .i64 0, .nilFunc] tcpart_zero ?_); intro w8 HZ8 hl8 hz8; replace HZ8 := Lib.hid HZ8)
          | ((refine wpList_store_v rfl 63 (.tmp 9) (.tmp 37) rfl wr.heap.size rfl [.int .i64 0, .func (.func 56) #[] #[]] rfl _ _ HZ8.out rfl (by rw [tcpart_size]; rfl) (by simp [Value.oneCell']) ?_); intro w9 HP9 hb9 hz9; refine Hid.out ?_))
        refine Lib.hid ?_
        have hl9 : Low wr w9 := Below.trans hl8 hb9
        have e0 := HP9.cell 0
        have e1 := HP9.cell 1
        replace e0 : _ = some (Value.int .i64 0) := e0
        replace e1 : _ = some (Value.func (.func 56) #[] #[]) := e1
        clear HZ8 hl8 hz8 hb9 hz9 d0 d1 HP9
        have HR9 := Lib.hid (show BlkS w9 w4.heap.size (segAt xs oA om oc os 0) ∧ BlkV w9 63 (w4.heap.size + 1) partsC ∧ Low w4 w9 from ⟨HR.out.1.below hl9 HR.out.1.lt, HR.out.2.1.below hl9 HR.out.2.1.lt, Low.trans HR.out.2.2 hl9⟩)
        clear hl9 HR
        go_wp2_with fail
        refine (part1_any (some ⟨b, o, none⟩) n c w4.heap.size xs (segAt xs oA om oc os 0) w9 hn (by omega) ((HB.out.below' hL4 hL4.size).below HR9.out.2.2) HR9.out.1).mono ?_
        rintro e w10 ⟨rfl, hS, hbT, hoth⟩
        have HR10 : Hid (BlkS w10 w4.heap.size (segAt xs oA om oc os 1) ∧ BlkV w10 63 (w4.heap.size + 1) partsC ∧ Low w4 w10) := Lib.hid ⟨hS, (hoth _ (by omega)).trans HR9.out.2.1, Below.trans HR9.out.2.2 hbT⟩
        clear hS hbT hoth HR9 e0 e1
        go_wp2_with fail
        go_roundw
        case rel => exact ⟨1, by omega, rfl, HR10⟩
        case measure => simp [intOf]
      · have d0 : wr.cell? ⟨w4.heap.size + 1, 2, none⟩ = some (.int .i64 2) := HR.out.2.1.cell 2
        have d1 : wr.cell? ⟨w4.heap.size + 1, 3, none⟩ = some (.func (.func 58) #[] #[]) := HR.out.2.1.cell 3
        go_wp2_with (first
          | ((with_reducible refine wpList_alloc_v rfl 63 rfl [.int .i64 0, .nilFunc] tcpart_zero ?_); intro w8 HZ8 hl8 hz8; replace HZ8 := Lib.hid HZ8)
          | ((refine wpList_store_v rfl 63 (.tmp 9) (.tmp 37) rfl wr.heap.size rfl [.int .i64 2, .func (.func 58) #[] #[]] rfl _ _ HZ8.out rfl (by rw [tcpart_size]; rfl) (by simp [Value.oneCell']) ?_); intro w9 HP9 hb9 hz9; refine Hid.out ?_))
        refine Lib.hid ?_
        have hl9 : Low wr w9 := Below.trans hl8 hb9
        have e0 := HP9.cell 0
        have e1 := HP9.cell 1
        replace e0 : _ = some (Value.int .i64 2) := e0
        replace e1 : _ = some (Value.func (.func 58) #[] #[]) := e1
        clear HZ8 hl8 hz8 hb9 hz9 d0 d1 HP9
        have HR9 := Lib.hid (show BlkS w9 w4.heap.size (segAt xs oA om oc os 1) ∧ BlkV w9 63 (w4.heap.size + 1) partsC ∧ Low w4 w9 from ⟨HR.out.1.below hl9 HR.out.1.lt, HR.out.2.1.below hl9 HR.out.2.1.lt, Low.trans HR.out.2.2 hl9⟩)
        clear hl9 HR
        go_wp2_with fail
        refine (part2_any (some ⟨b, o, none⟩) n c w4.heap.size xs (segAt xs oA om oc os 1) w9 hn (by omega) ((HB.out.below' hL4 hL4.size).below HR9.out.2.2) HR9.out.1).mono ?_
        rintro e w10 ⟨rfl, hS, hbT, hoth⟩
        have HR10 : Hid (BlkS w10 w4.heap.size (segAt xs oA om oc os 2) ∧ BlkV w10 63 (w4.heap.size + 1) partsC ∧ Low w4 w10) := Lib.hid ⟨hS, (hoth _ (by omega)).trans HR9.out.2.1, Below.trans HR9.out.2.2 hbT⟩
        clear hS hbT hoth HR9 e0 e1
        go_wp2_with fail
        go_roundw
        case rel => exact ⟨2, by omega, rfl, HR10⟩
        case measure => simp [intOf]
      · have d0 : wr.cell? ⟨w4.heap.size + 1, 4, none⟩ = some (.int .i64 4) := HR.out.2.1.cell 4
        have d1 : wr.cell? ⟨w4.heap.size + 1, 5, none⟩ = some (.func (.func 59) #[] #[]) := HR.out.2.1.cell 5
        go_wp2_with (first
          | ((with_reducible refine wpList_alloc_v rfl 63 rfl [.int .i64 0, .nilFunc] tcpart_zero ?_); intro w8 HZ8 hl8 hz8; replace HZ8 := Lib.hid HZ8)
          | ((refine wpList_store_v rfl 63 (.tmp 9) (.tmp 37) rfl wr.heap.size rfl [.int .i64 4, .func (.func 59) #[] #[]] rfl _ _ HZ8.out rfl (by rw [tcpart_size]; rfl) (by simp [Value.oneCell']) ?_); intro w9 HP9 hb9 hz9; refine Hid.out ?_))
        refine Lib.hid ?_
        have hl9 : Low wr w9 := Below.trans hl8 hb9
        have e0 := HP9.cell 0
        have e1 := HP9.cell 1
        replace e0 : _ = some (Value.int .i64 4) := e0
        replace e1 : _ = some (Value.func (.func 59) #[] #[]) := e1
        clear HZ8 hl8 hz8 hb9 hz9 d0 d1 HP9
        have HR9 := Lib.hid (show BlkS w9 w4.heap.size (segAt xs oA om oc os 2) ∧ BlkV w9 63 (w4.heap.size + 1) partsC ∧ Low w4 w9 from ⟨HR.out.1.below hl9 HR.out.1.lt, HR.out.2.1.below hl9 HR.out.2.1.lt, Low.trans HR.out.2.2 hl9⟩)
        clear hl9 HR
        go_wp2_with fail
        refine (part3_any (some ⟨b, o, none⟩) n c w4.heap.size xs (segAt xs oA om oc os 2) w9 hn (by omega) ((HB.out.below' hL4 hL4.size).below HR9.out.2.2) HR9.out.1).mono ?_
        rintro e w10 ⟨rfl, hS, hbT, hoth⟩
        have HR10 : Hid (BlkS w10 w4.heap.size (segAt xs oA om oc os 3) ∧ BlkV w10 63 (w4.heap.size + 1) partsC ∧ Low w4 w10) := Lib.hid ⟨hS, (hoth _ (by omega)).trans HR9.out.2.1, Below.trans HR9.out.2.2 hbT⟩
        clear hS hbT hoth HR9 e0 e1
        go_wp2_with fail
        go_roundw
        case rel => exact ⟨3, by omega, rfl, HR10⟩
        case measure => simp [intOf]
      · have d0 : wr.cell? ⟨w4.heap.size + 1, 6, none⟩ = some (.int .i64 8) := HR.out.2.1.cell 6
        have d1 : wr.cell? ⟨w4.heap.size + 1, 7, none⟩ = some (.func (.func 61) #[] #[]) := HR.out.2.1.cell 7
        go_wp2_with (first
          | ((with_reducible refine wpList_alloc_v rfl 63 rfl [.int .i64 0, .nilFunc] tcpart_zero ?_); intro w8 HZ8 hl8 hz8; replace HZ8 := Lib.hid HZ8)
          | ((refine wpList_store_v rfl 63 (.tmp 9) (.tmp 37) rfl wr.heap.size rfl [.int .i64 8, .func (.func 61) #[] #[]] rfl _ _ HZ8.out rfl (by rw [tcpart_size]; rfl) (by simp [Value.oneCell']) ?_); intro w9 HP9 hb9 hz9; refine Hid.out ?_))
        refine Lib.hid ?_
        have hl9 : Low wr w9 := Below.trans hl8 hb9
        have e0 := HP9.cell 0
        have e1 := HP9.cell 1
        replace e0 : _ = some (Value.int .i64 8) := e0
        replace e1 : _ = some (Value.func (.func 61) #[] #[]) := e1
        clear HZ8 hl8 hz8 hb9 hz9 d0 d1 HP9
        have HR9 := Lib.hid (show BlkS w9 w4.heap.size (segAt xs oA om oc os 3) ∧ BlkV w9 63 (w4.heap.size + 1) partsC ∧ Low w4 w9 from ⟨HR.out.1.below hl9 HR.out.1.lt, HR.out.2.1.below hl9 HR.out.2.1.lt, Low.trans HR.out.2.2 hl9⟩)
        clear hl9 HR
        go_wp2_with fail
        refine (part4_any (some ⟨b, o, none⟩) n c w4.heap.size xs (segAt xs oA om oc os 3) w9 hn (by omega) ((HB.out.below' hL4 hL4.size).below HR9.out.2.2) HR9.out.1).mono ?_
        rintro e w10 ⟨rfl, hS, hbT, hoth⟩
        have HR10 : Hid (BlkS w10 w4.heap.size (segAt xs oA om oc os 4) ∧ BlkV w10 63 (w4.heap.size + 1) partsC ∧ Low w4 w10) := Lib.hid ⟨hS, (hoth _ (by omega)).trans HR9.out.2.1, Below.trans HR9.out.2.2 hbT⟩
        clear hS hbT hoth HR9 e0 e1
        go_wp2_with fail
        go_roundw
        case rel => exact ⟨4, by omega, rfl, HR10⟩
        case measure => simp [intOf]
      · have d0 : wr.cell? ⟨w4.heap.size + 1, 8, none⟩ = some (.int .i64 13) := HR.out.2.1.cell 8
        have d1 : wr.cell? ⟨w4.heap.size + 1, 9, none⟩ = some (.func (.func 62) #[] #[]) := HR.out.2.1.cell 9
        go_wp2_with (first
          | ((with_reducible refine wpList_alloc_v rfl 63 rfl [.int .i64 0, .nilFunc] tcpart_zero ?_); intro w8 HZ8 hl8 hz8; replace HZ8 := Lib.hid HZ8)
          | ((refine wpList_store_v rfl 63 (.tmp 9) (.tmp 37) rfl wr.heap.size rfl [.int .i64 13, .func (.func 62) #[] #[]] rfl _ _ HZ8.out rfl (by rw [tcpart_size]; rfl) (by simp [Value.oneCell']) ?_); intro w9 HP9 hb9 hz9; refine Hid.out ?_))
        refine Lib.hid ?_
        have hl9 : Low wr w9 := Below.trans hl8 hb9
        have e0 := HP9.cell 0
        have e1 := HP9.cell 1
        replace e0 : _ = some (Value.int .i64 13) := e0
        replace e1 : _ = some (Value.func (.func 62) #[] #[]) := e1
        clear HZ8 hl8 hz8 hb9 hz9 d0 d1 HP9
        have HR9 := Lib.hid (show BlkS w9 w4.heap.size (segAt xs oA om oc os 4) ∧ BlkV w9 63 (w4.heap.size + 1) partsC ∧ Low w4 w9 from ⟨HR.out.1.below hl9 HR.out.1.lt, HR.out.2.1.below hl9 HR.out.2.1.lt, Low.trans HR.out.2.2 hl9⟩)
        clear hl9 HR
        go_wp2_with fail
        refine (part5_any (some ⟨b, o, none⟩) n c w4.heap.size xs (segAt xs oA om oc os 4) w9 hn (by omega) ((HB.out.below' hL4 hL4.size).below HR9.out.2.2) HR9.out.1).mono ?_
        rintro e w10 ⟨rfl, hS, hbT, hoth⟩
        have HR10 : Hid (BlkS w10 w4.heap.size (segAt xs oA om oc os 5) ∧ BlkV w10 63 (w4.heap.size + 1) partsC ∧ Low w4 w10) := Lib.hid ⟨hS, (hoth _ (by omega)).trans HR9.out.2.1, Below.trans HR9.out.2.2 hbT⟩
        clear hS hbT hoth HR9 e0 e1
        go_wp2_with fail
        go_roundw
        case rel => exact ⟨5, by omega, rfl, HR10⟩
        case measure => simp [intOf]
      · have d0 : wr.cell? ⟨w4.heap.size + 1, 10, none⟩ = some (.int .i64 14) := HR.out.2.1.cell 10
        have d1 : wr.cell? ⟨w4.heap.size + 1, 11, none⟩ = some (.func (.func 63) #[] #[]) := HR.out.2.1.cell 11
        go_wp2_with (first
          | ((with_reducible refine wpList_alloc_v rfl 63 rfl [.int .i64 0, .nilFunc] tcpart_zero ?_); intro w8 HZ8 hl8 hz8; replace HZ8 := Lib.hid HZ8)
          | ((refine wpList_store_v rfl 63 (.tmp 9) (.tmp 37) rfl wr.heap.size rfl [.int .i64 14, .func (.func 63) #[] #[]] rfl _ _ HZ8.out rfl (by rw [tcpart_size]; rfl) (by simp [Value.oneCell']) ?_); intro w9 HP9 hb9 hz9; refine Hid.out ?_))
        refine Lib.hid ?_
        have hl9 : Low wr w9 := Below.trans hl8 hb9
        have e0 := HP9.cell 0
        have e1 := HP9.cell 1
        replace e0 : _ = some (Value.int .i64 14) := e0
        replace e1 : _ = some (Value.func (.func 63) #[] #[]) := e1
        clear HZ8 hl8 hz8 hb9 hz9 d0 d1 HP9
        have HR9 := Lib.hid (show BlkS w9 w4.heap.size (segAt xs oA om oc os 5) ∧ BlkV w9 63 (w4.heap.size + 1) partsC ∧ Low w4 w9 from ⟨HR.out.1.below hl9 HR.out.1.lt, HR.out.2.1.below hl9 HR.out.2.1.lt, Low.trans HR.out.2.2 hl9⟩)
        clear hl9 HR
        go_wp2_with fail
        refine (part6_any (some ⟨b, o, none⟩) n c w4.heap.size xs (segAt xs oA om oc os 5) w9 hn (by omega) ((HB.out.below' hL4 hL4.size).below HR9.out.2.2) HR9.out.1).mono ?_
        rintro e w10 ⟨rfl, hS, hbT, hoth⟩
        have HR10 : Hid (BlkS w10 w4.heap.size (segAt xs oA om oc os 6) ∧ BlkV w10 63 (w4.heap.size + 1) partsC ∧ Low w4 w10) := Lib.hid ⟨hS, (hoth _ (by omega)).trans HR9.out.2.1, Below.trans HR9.out.2.2 hbT⟩
        clear hS hbT hoth HR9 e0 e1
        go_wp2_with fail
        go_roundw
        case rel => exact ⟨6, by omega, rfl, HR10⟩
        case measure => simp [intOf]
      · have d0 : wr.cell? ⟨w4.heap.size + 1, 12, none⟩ = some (.int .i64 16) := HR.out.2.1.cell 12
        have d1 : wr.cell? ⟨w4.heap.size + 1, 13, none⟩ = some (.func (.func 64) #[] #[]) := HR.out.2.1.cell 13
        go_wp2_with (first
          | ((with_reducible refine wpList_alloc_v rfl 63 rfl [.int .i64 0, .nilFunc] tcpart_zero ?_); intro w8 HZ8 hl8 hz8; replace HZ8 := Lib.hid HZ8)
          | ((refine wpList_store_v rfl 63 (.tmp 9) (.tmp 37) rfl wr.heap.size rfl [.int .i64 16, .func (.func 64) #[] #[]] rfl _ _ HZ8.out rfl (by rw [tcpart_size]; rfl) (by simp [Value.oneCell']) ?_); intro w9 HP9 hb9 hz9; refine Hid.out ?_))
        refine Lib.hid ?_
        have hl9 : Low wr w9 := Below.trans hl8 hb9
        have e0 := HP9.cell 0
        have e1 := HP9.cell 1
        replace e0 : _ = some (Value.int .i64 16) := e0
        replace e1 : _ = some (Value.func (.func 64) #[] #[]) := e1
        clear HZ8 hl8 hz8 hb9 hz9 d0 d1 HP9
        have HR9 := Lib.hid (show BlkS w9 w4.heap.size (segAt xs oA om oc os 6) ∧ BlkV w9 63 (w4.heap.size + 1) partsC ∧ Low w4 w9 from ⟨HR.out.1.below hl9 HR.out.1.lt, HR.out.2.1.below hl9 HR.out.2.1.lt, Low.trans HR.out.2.2 hl9⟩)
        clear hl9 HR
        go_wp2_with fail
        refine (part7_any (some ⟨b, o, none⟩) n c w4.heap.size xs (segAt xs oA om oc os 6) w9 hn (by omega) ((HB.out.below' hL4 hL4.size).below HR9.out.2.2) HR9.out.1).mono ?_
        rintro e w10 ⟨rfl, hS, hbT, hoth⟩
        have HR10 : Hid (BlkS w10 w4.heap.size (segAt xs oA om oc os 7) ∧ BlkV w10 63 (w4.heap.size + 1) partsC ∧ Low w4 w10) := Lib.hid ⟨hS, (hoth _ (by omega)).trans HR9.out.2.1, Below.trans HR9.out.2.2 hbT⟩
        clear hS hbT hoth HR9 e0 e1
        go_wp2_with fail
        go_roundw
        case rel => exact ⟨7, by omega, rfl, HR10⟩
        case measure => simp [intOf]
      · have d0 : wr.cell? ⟨w4.heap.size + 1, 14, none⟩ = some (.int .i64 18) := HR.out.2.1.cell 14
        have d1 : wr.cell? ⟨w4.heap.size + 1, 15, none⟩ = some (.func (.func 65) #[] #[]) := HR.out.2.1.cell 15
        go_wp2_with (first
          | ((with_reducible refine wpList_alloc_v rfl 63 rfl [.int .i64 0, .nilFunc] tcpart_zero ?_); intro w8 HZ8 hl8 hz8; replace HZ8 := Lib.hid HZ8)
          | ((refine wpList_store_v rfl 63 (.tmp 9) (.tmp 37) rfl wr.heap.size rfl [.int .i64 18, .func (.func 65) #[] #[]] rfl _ _ HZ8.out rfl (by rw [tcpart_size]; rfl) (by simp [Value.oneCell']) ?_); intro w9 HP9 hb9 hz9; refine Hid.out ?_))
        refine Lib.hid ?_
        have hl9 : Low wr w9 := Below.trans hl8 hb9
        have e0 := HP9.cell 0
        have e1 := HP9.cell 1
        replace e0 : _ = some (Value.int .i64 18) := e0
        replace e1 : _ = some (Value.func (.func 65) #[] #[]) := e1
        clear HZ8 hl8 hz8 hb9 hz9 d0 d1 HP9
        have HR9 := Lib.hid (show BlkS w9 w4.heap.size (segAt xs oA om oc os 7) ∧ BlkV w9 63 (w4.heap.size + 1) partsC ∧ Low w4 w9 from ⟨HR.out.1.below hl9 HR.out.1.lt, HR.out.2.1.below hl9 HR.out.2.1.lt, Low.trans HR.out.2.2 hl9⟩)
        clear hl9 HR
        go_wp2_with fail
        refine (part8_any (some ⟨b, o, none⟩) n c w4.heap.size xs (segAt xs oA om oc os 7) w9 hn (by omega) ((HB.out.below' hL4 hL4.size).below HR9.out.2.2) HR9.out.1).mono ?_
        rintro e w10 ⟨rfl, hS, hbT, hoth⟩
        have HR10 : Hid (BlkS w10 w4.heap.size (segAt xs oA om oc os 8) ∧ BlkV w10 63 (w4.heap.size + 1) partsC ∧ Low w4 w10) := Lib.hid ⟨hS, (hoth _ (by omega)).trans HR9.out.2.1, Below.trans HR9.out.2.2 hbT⟩
        clear hS hbT hoth HR9 e0 e1
        go_wp2_with fail
        go_roundw
        case rel => exact ⟨8, by omega, rfl, HR10⟩
        case measure => simp [intOf]
      · have hbs := HB.out.below' hL4 hL4.size
        have hbr := hbs.below' HR.out.2.2 HR.out.2.2.size
        have hdr : (xs.drop m).take (n - m) = xs.drop m := List.take_of_length_le (by rw [List.length_drop, HB.out.len]; omega)
        have HBR := Lib.hid hbr
        clear hbs hbr
        go_wp2_with fail
        refine (cut_yes (some ⟨b, o, none⟩) n c _ _ m (n - m) xs wr hn hc hc2 HBR.out rfl (by omega) (by omega)).mono ?_
        rintro e w11 ⟨v, rfl, g, rfl, hg, hkg, hlg, hag, hB11⟩
        rw [hdr] at hkg hlg hag
        have HS11 := Lib.hid (HR.out.1.below hB11 HR.out.1.lt)
        have hL11 : Low w4 w11 := Low.trans HR.out.2.2 hB11
        have hTg : w4.heap.size < g := Nat.lt_of_lt_of_le HR.out.1.lt hg
        have f9 := HS11.out.frozen 9
        have c9 := (BlkS.cells HS11.out).2.2.2.2.2.2.2.2.2
        have HKG := Lib.hid (Blk.far hkg (p := ⟨w4.heap.size, 9, none⟩) (by show g ≠ w4.heap.size; omega) (.slice (some ⟨g, 0, none⟩) (n - m) (n - m)))
        have HT9 : Hid (BlkS (w11.setCell ⟨w4.heap.size, 9, none⟩ (.slice (some ⟨g, 0, none⟩) (n - m) (n - m))) w4.heap.size ⟨num2 xs 0, num2 xs 2, num4 xs 4, num4 xs 8, xs.getD 13 0, num2 xs 14, num2 xs 16, num2 xs 18, oA, om, oc, os, some ⟨g, 0, none⟩, n - m, n - m, xs.drop m⟩) := Lib.hid (HS11.out.set_ 9 (.slice (some ⟨g, 0, none⟩) (n - m) (n - m)))
        have hL12 : Low w4 (w11.setCell ⟨w4.heap.size, 9, none⟩ (.slice (some ⟨g, 0, none⟩) (n - m) (n - m))) := hL11.setCell (Nat.le_refl _) _
        have HLG := Lib.hid hlg
        have HAG := Lib.hid hag
        clear hg hkg hlg hag hB11 HS11 hL11 HR HBR
        go_wp2_with (with_reducible refine wpList_load_seg rfl (.tmp 7) rfl w4.heap.size rfl _ HT9.out (Hid.out ?_))
        refine Lib.hid ?_
        clear f9 c9
        generalize w11.setCell ⟨w4.heap.size, 9, none⟩ (.slice (some ⟨g, 0, none⟩) (n - m) (n - m)) = w12 at *
        replace HZ := Lib.hid (HZ.out.below hL12 HZ.out.lt)
        go_wp2_with ((refine wpList_store_seg2 rfl (.tmp 2) (.tmp 56) rfl w.heap.size rfl ⟨num2 xs 0, num2 xs 2, num4 xs 4, num4 xs 8, xs.getD 13 0, num2 xs 14, num2 xs 16, num2 xs 18, oA, om, oc, os, some ⟨g, 0, none⟩, n - m, n - m, xs.drop m⟩ rfl zeroS HZ.out ?_); intro w13 HG hb13 hoth hz13)
        have hall := HB.out.all
        have n0 := tcnum2 hall 0
        have n2 := tcnum2 hall 2
        have n4 := tcnum4 hall 4
        have n8 := tcnum4 hall 8
        have n13 := hall.getD 13
        have n14 := tcnum2 hall 14
        have n16 := tcnum2 hall 16
        have n18 := tcnum2 hall 18
        have hos12 := (HOS.out.below' hL12 hL12.size).upper HOF.out (w' := w13) fun p h1 h2 => hoth p (by omega)
        have hpg := HKG.out.bs (B := w12.heap.size) HAG.out HKG.out.lt HLG.out
        have hpg13 : Bs w13 w12.heap.size (some ⟨g, 0, none⟩) (n - m) (xs.drop m) := ⟨hpg.len, hpg.all, fun h => by
          obtain ⟨b', o', e', hb', hc'⟩ := hpg.mem h
          injection e' with e'
          injection e' with e1 e2 _
          subst e1 e2
          refine ⟨_, _, rfl, hb', fun i hi => (hoth _ ?_).trans (hc' i hi)⟩
          show g ≠ w.heap.size
          have := hL4.size
          omega⟩
        rw [← hz13] at hos12 hpg13
        refine ret_seg Try.results13 rfl rfl HG (GivesS.of HX.out ?_ ⟨?_, ?_, n4, n8, ?_, ?_, ?_, ?_, ?_, hos12, ?_, hpg13⟩ ?_) rfl
        · show Sb.mk _ _ _ _ _ _ _ _ (os.map Od.v) _ = _
          rw [HOV.out]
          rfl
        · unfold i64ok; dsimp only; omega
        · unfold i64ok; dsimp only; omega
        · unfold i64ok; dsimp only; omega
        · unfold i64ok; dsimp only; omega
        · unfold i64ok; dsimp only; omega
        · unfold i64ok; dsimp only; omega
        · dsimp only; omega
        · dsimp only; omega
        · exact Below.trans (Low.trans hL4 hL12) hb13
  · rw [if_neg hre] at HX
    clear hos hov hof
    generalize ol.length = om at *
    go_wp2_with ((refine wpList_store_seg rfl (.tmp 2) (.tmp 28) rfl w.heap.size rfl zeroS rfl zeroS HZ.out ?_); intro w5 HG hb5 hz5)
    exact ret_seg Try.results13 rfl rfl HG (GivesS.of HX.out rfl (zeroS_ok _ _) (Below.trans hL4 hb5)) rfl

theorem tcparse_any (A : Option Addr) (n c : Nat) (xs : List Int) (w : World) (hn0 : n ≤ 140737488351232) (hc : n ≤ c) (hc2 : c ≤ 9223372036854775807) (hb : Bs w w.heap.size A n xs) :
    Calls Try.prog 13 #[.slice A n c] w (GivesS w (parseS xs)) := by
  by_cases h : (aheadS xs).2 = 0
  · exact tcparse_yes A n c xs w hn0 hc hc2 hb h
  · exact tcparse_err A n c xs w (by omega) hc hc2 hb h
end Go.Proofs.Ytkbgfddicpnbmaa
