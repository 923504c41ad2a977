/- The law CksumFine answers true for every input. Condition: the slice is at most 2^47 - 4096 bytes long. -/
import Derived.Test.YteojbdchekgooaaCkG
import Derived.Test.YteojbdchekgooaaRefA
namespace Go.Proofs.Yteojbdchekgooaa
open Go.RowKit
set_option linter.unusedVariables false

set_option maxHeartbeats 1000000 in
theorem ckf_walk (s d : List Int) (p nx : Int) (A : Option Addr) (n c : Nat) (xs : List Int) (w : World) (hs : s.length = 16) (hd : d.length = 16) (vs : AllB s) (vd : AllB d) (hn : n ≤ 140737488351232) (hc : n ≤ c) (hc2 : c ≤ 9223372036854775807) (hp : i64ok p) (hx : i64ok nx) (hb : Bs w w.heap.size A n xs) :
    Calls Try.prog 5 #[endsV s d, .agg #[.int .i64 p, .int .i64 nx], .slice A n c] w fun e w' => e = .returned (.bool true) ∧ Below w.heap.size w w' := by
  have hL : Low w ((w.alloc (.cells (cellsB (s ++ d)).toArray 33)).alloc (.cells #[.int .i64 p, .int .i64 nx] 34)) := (Low.alloc w _).trans (Low.alloc _ _)
  unfold endsV
  unfold i64ok at hp
  by_cases h1 : p < 0
  · clear hb
    go_enter Try.func5, Try.ntmps5
    go_wp2_with fail
    refine (cklives_any _).mono ?_
    rintro e w2 ⟨rfl, hl⟩
    have hB := hL.trans hl
    clear hl hL
    go_wp2
    go_ret
    exact ⟨rfl, hB⟩
  · have h1' : 0 ≤ p := by omega
    clear h1
    by_cases h2 : p % 2 = 1
    · clear hb
      go_enter Try.func5, Try.ntmps5
      go_wp2_with fail
      refine (cklives_any _).mono ?_
      rintro e w2 ⟨rfl, hl⟩
      have hB := hL.trans hl
      clear hl hL
      go_wp2
      go_ret
      exact ⟨rfl, hB⟩
    · have h2' : p % 2 = 0 := by omega
      clear h2
      by_cases h3 : (n : Int) - 1 ≤ p
      · clear hb
        go_enter Try.func5, Try.ntmps5
        go_wp2_with fail
        refine (cklives_any _).mono ?_
        rintro e w2 ⟨rfl, hl⟩
        have hB := hL.trans hl
        clear hl hL
        go_wp2
        go_ret
        exact ⟨rfl, hB⟩
      · have h3' : p < (n : Int) - 1 := by omega
        clear h3
        obtain ⟨q, rfl⟩ : ∃ q : Nat, p = q := ⟨p.toNat, by omega⟩
        have hq : q + 2 ≤ n := by omega
        have HE := Lib.hid (show q % 2 = 0 by omega)
        have HS := Lib.hid hs
        have HD := Lib.hid hd
        have HA := Lib.hid hb.all
        have HL := Lib.hid hb.len
        have HC := Lib.hid hb
        obtain ⟨b, o, rfl, hbw, hcell⟩ := hb.mem (by omega)
        have hc0 := (hL.cell (p := ⟨b, o + q, none⟩) hbw).trans (hcell q (by omega))
        have hc1 := (hL.cell (p := ⟨b, o + (q + 1), none⟩) hbw).trans (hcell (q + 1) (by omega))
        clear hs hd hcell hb
        by_cases h4 : xs.getD q 0 = 0
        · by_cases h5 : xs.getD (q + 1) 0 = 0
          · have HF := Lib.hid (fine_law vs vd HA.out nx q (by rw [HL.out]; exact hq) HE.out h4 h5)
            rw [h4] at hc0
            rw [h5] at hc1
            clear h4 h5
            have HB := Lib.hid ((Blk.new w 33 (s ++ d)).alloc (.cells #[.int .i64 (q : Int), .int .i64 nx] 34))
            go_enter Try.func5, Try.ntmps5
            go_wp2_with (first
              | (with_reducible refine wpList_load_half1 rfl (.tmp 43) rfl w.heap.size rfl _ s d HB.out HS.out ?_)
              | (with_reducible refine wpList_load_half2 rfl (.tmp 45) rfl w.heap.size rfl _ s d HB.out HS.out HD.out ?_))
            have hcn : ((w.alloc (.cells (cellsB (s ++ d)).toArray 33)).alloc (.cells #[.int .i64 (q : Int), .int .i64 nx] 34)).cell? ⟨w.heap.size + 1, 1, none⟩ = some (.int .i64 nx) := by
              have h := heap_alloc_new (w.alloc (.cells (cellsB (s ++ d)).toArray 33)) (.cells #[.int .i64 (q : Int), .int .i64 nx] 34)
              rw [show (w.alloc (.cells (cellsB (s ++ d)).toArray 33)).heap.size = w.heap.size + 1 by simp] at h
              rw [cell_of_row _ _ _ _ _ _ h]; rfl
            have hgl : w.heap.size + 1 < ((w.alloc (.cells (cellsB (s ++ d)).toArray 33)).alloc (.cells #[.int .i64 (q : Int), .int .i64 nx] 34)).heap.size := by simp
            clear hc0 hc1
            generalize (w.alloc (.cells (cellsB (s ++ d)).toArray 33)).alloc (.cells #[.int .i64 (q : Int), .int .i64 nx] 34) = w1 at *
            refine (check_any s d nx (some ⟨b, o, none⟩) n c xs w1 HS.out HD.out vs vd hx (by omega) (HC.out.below' hL hL.size)).mono ?_
            rintro e w2 ⟨rfl, hl⟩
            have hl : Low w1 w2 := hl
            replace HB := Lib.hid (HB.out.below hl HB.out.lt)
            rw [← hl.cell (p := ⟨w.heap.size + 1, 1, none⟩) hgl] at hcn
            replace hgl := Nat.lt_of_lt_of_le hgl hl.size
            replace hL := hL.trans hl
            clear hl
            have hnt := nt_range (chk s d nx xs)
            go_wp2_with fail
            refine (rset16_yes (some ⟨b, o, none⟩) n c q q (nt (chk s d nx xs)) xs w2 hn hc hc2 (by unfold i64ok; omega) (HC.out.below' hL hL.size) rfl hq).mono ?_
            rintro e w3 ⟨A3, n3, c3, rfl, hb3, hl⟩
            have hl : Low w2 w3 := hl
            replace HB := Lib.hid (HB.out.below hl HB.out.lt)
            rw [← hl.cell (p := ⟨w.heap.size + 1, 1, none⟩) hgl] at hcn
            replace hgl := Nat.lt_of_lt_of_le hgl hl.size
            replace hL := hL.trans hl
            have hn3 : n3 = n := by rw [← hb3.len]; simp [HL.out]
            subst hn3
            clear hl hnt
            go_wp2_with (first
              | (with_reducible refine wpList_load_half1 rfl (.tmp 58) rfl w.heap.size rfl _ s d HB.out HS.out ?_)
              | (with_reducible refine wpList_load_half2 rfl (.tmp 60) rfl w.heap.size rfl _ s d HB.out HS.out HD.out ?_))
            refine (fine_any s d nx A3 n3 c3 _ w3 HS.out HD.out vs vd hx (by omega) hb3).mono ?_
            rintro e w4 ⟨rfl, hl⟩
            rw [HF.out]
            replace hL := hL.trans hl
            clear hl hcn HB hgl hb3
            go_wp2_with fail
            refine (cklives_any _).mono ?_
            rintro e w5 ⟨rfl, hl⟩
            replace hL := hL.trans hl
            clear hl
            go_wp2
            go_ret
            exact ⟨rfl, hL⟩
          · have h5' : (xs.getD (q + 1) 0 != 0) = true := by rw [bne_iff_ne]; exact h5
            rw [h4] at hc0
            clear h5
            generalize xs.getD (q + 1) 0 = y at *
            go_enter Try.func5, Try.ntmps5
            go_wp2_with fail
            refine (cklives_any _).mono ?_
            rintro e w2 ⟨rfl, hl⟩
            have hB := hL.trans hl
            clear hl hL
            go_wp2
            go_ret
            exact ⟨rfl, hB⟩
        · have h4' : (xs.getD q 0 != 0) = true := by rw [bne_iff_ne]; exact h4
          clear h4 hc1
          generalize xs.getD q 0 = y at *
          go_enter Try.func5, Try.ntmps5
          go_wp2_with fail
          refine (cklives_any _).mono ?_
          rintro e w2 ⟨rfl, hl⟩
          have hB := hL.trans hl
          clear hl hL
          go_wp2
          go_ret
          exact ⟨rfl, hB⟩
end Go.Proofs.Yteojbdchekgooaa
