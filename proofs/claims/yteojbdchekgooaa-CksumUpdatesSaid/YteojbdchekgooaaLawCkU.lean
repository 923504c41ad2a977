/- The law CksumUpdates answers true for every input. Condition: the slice is at most 2^47 - 4096 bytes long. -/
import Derived.Test.YteojbdchekgooaaCkL
import Derived.Test.YteojbdchekgooaaRefA
import Derived.Test.YteojbdchekgooaaOctU
namespace Go.Proofs.Yteojbdchekgooaa
open Go.RowKit
set_option linter.unusedVariables false

theorem sumL_pos {xs : List Int} (ha : AllB xs) (h : zerosB xs = false) : 0 < tot xs := tot_zero xs ha h
/-- the update's own law -/
theorem upd_law {xs : List Int} (ha : AllB xs) (p : Nat) (x : Int) (h : p + 2 ≤ xs.length) (he : p % 2 = 0) (hz : zerosB ((xs.set p (x / 256 % 256)).set (p + 1) (x % 256)) = false) :
    upd (nt (sumL xs)) (num2 xs p) x = nt (sumL ((xs.set p (x / 256 % 256)).set (p + 1) (x % 256))) := by
  have hr := sumL_range xs
  have hn := num2_range ha p
  have ha2 : AllB ((xs.set p (x / 256 % 256)).set (p + 1) (x % 256)) := (ha.set p (by omega) (by omega)).set (p + 1) (by omega) (by omega)
  have hpos := tot_zero _ ha2 hz
  have ht := tot_set xs p (x / 256 % 256) (x % 256) h he
  have h0 := tot_nonneg xs ha
  have e1 : nt (nt (sumL xs)) = sumL xs := by unfold nt; omega
  have e2 : nt (num2 xs p) = 65535 - num2 xs p := by unfold nt; omega
  have e3 : x / 256 % 256 * 256 + x % 256 = x % 65536 := by omega
  unfold upd
  rw [e1, e2]
  show nt (jn (jn (fold (tot xs)) (65535 - num2 xs p)) x) = nt (fold (tot _))
  rw [jn_fold_num h0 (by omega) (by omega), ← jn_mod_right, jn_fold_num (by omega) (by omega) (by omega)]
  rw [show tot xs + (65535 - num2 xs p) + x % 65536 = tot ((xs.set p (x / 256 % 256)).set (p + 1) (x % 256)) + 65535 by rw [ht]; omega, fold_full hpos]

set_option maxHeartbeats 1000000 in
theorem cku_walk (A : Option Addr) (n c : Nat) (p x : Int) (xs : List Int) (w : World) (hn : n ≤ 140737488351232) (hc : n ≤ c) (hc2 : c ≤ 9223372036854775807) (hp : i64ok p) (hx : i64ok x) (hb : Bs w w.heap.size A n xs) :
    Calls Try.prog 6 #[.slice A n c, .int .i64 p, .int .i64 x] w fun e w' => e = .returned (.bool true) ∧ Below w.heap.size w w' := by
  by_cases h : 0 ≤ p ∧ p + 2 ≤ n
  · obtain ⟨q, rfl⟩ : ∃ q : Nat, p = q := ⟨p.toNat, by omega⟩
    have hq : q + 2 ≤ n := by omega
    clear h
    unfold i64ok at hp
    by_cases ho : q % 2 = 1
    · have ho' : (q : Int) % 2 = 1 := by omega
      clear ho
      go_enter Try.func6, Try.ntmps6
      go_wp2_with fail
      refine (r16_yes A n c q q xs w (by omega) hb rfl hq).mono ?_
      rintro e w1 ⟨rfl, j, rfl⟩
      go_wp2_with fail
      refine (cklives_any _).mono ?_
      rintro e w2 ⟨rfl, hl⟩
      have hB := (below_drewN (Below.refl w.heap.size w) j).trans hl
      clear hl
      go_wp2
      go_ret
      exact ⟨rfl, hB⟩
    · have ho' : (q : Int) % 2 = 0 := by omega
      have hqe : q % 2 = 0 := by omega
      have HE := Lib.hid hqe
      have HA := Lib.hid hb.all
      have HL := Lib.hid hb.len
      clear ho hqe
      go_enter Try.func6, Try.ntmps6
      go_wp2_with fail
      refine (r16_yes A n c q q xs w (by omega) hb rfl hq).mono ?_
      rintro e w1 ⟨rfl, j, rfl⟩
      have hB1 := below_drewN (Below.refl w.heap.size w) j
      generalize w.drewN j = w1 at *
      go_wp2_with fail
      refine (rset16_yes A n c q q x xs w1 hn hc hc2 hx (hb.below' hB1 hB1.size) rfl hq).mono ?_
      rintro e w2 ⟨A2, n2, c2, rfl, hb2, hl⟩
      have hB2 := hB1.trans (hl.mono hB1.size)
      have hn2 : n2 = n := by rw [← hb2.len]; simp [HL.out]
      subst hn2
      clear hl hB1
      go_wp2_with fail
      refine (rzeros_any A2 n2 c2 _ w2 (by omega) hb2).mono ?_
      rintro e w3 ⟨rfl, rfl⟩
      cases hz : zerosB ((xs.set q (x / 256 % 256)).set (q + 1) (x % 256)) with
      | true =>
        clear hz
        go_wp2_with fail
        refine (cklives_any _).mono ?_
        rintro e w3 ⟨rfl, hl⟩
        have hB := hB2.trans (hl.mono hB2.size)
        clear hl
        go_wp2
        go_ret
        exact ⟨rfl, hB⟩
      | false =>
        have HU := Lib.hid (upd_law HA.out q x (by rw [HL.out]; exact hq) HE.out hz)
        clear hz
        go_wp2_with fail
        refine (cksum_any A n2 c xs w2 (by omega) (hb.below' hB2 hB2.size)).mono ?_
        rintro e w3 ⟨rfl, hl⟩
        have hb3 := hb2.below' hl hl.size
        have hB3 := hB2.trans (hl.mono hB2.size)
        clear hl hB2 hb2
        go_wp2_with fail
        refine (cknot_any _ _).mono ?_
        rintro e w4 ⟨rfl, rfl⟩
        go_wp2_with fail
        refine (upd_any _ _ _ _).mono ?_
        rintro e w4 ⟨rfl, rfl⟩
        rw [HU.out]
        go_wp2_with fail
        refine (cksum_any A2 n2 c2 _ w3 (by omega) hb3).mono ?_
        rintro e w4 ⟨rfl, hl⟩
        have hB4 := hB3.trans (hl.mono hB3.size)
        clear hl hB3 hb3
        go_wp2_with fail
        refine (cknot_any _ _).mono ?_
        rintro e w5 ⟨rfl, rfl⟩
        go_wp2_with fail
        refine (cklives_any _).mono ?_
        rintro e w5 ⟨rfl, hl⟩
        have hB := hB4.trans (hl.mono hB4.size)
        clear hl
        go_wp2
        go_ret
        exact ⟨rfl, hB⟩
  · have hno : p < 0 ∨ (n : Int) - p < 2 := by omega
    clear h
    unfold i64ok at hp
    go_enter Try.func6, Try.ntmps6
    go_wp2_with fail
    refine (r16_no A n c p w (by omega) hno).mono ?_
    rintro e w1 ⟨rfl, rfl⟩
    go_wp2_with fail
    refine (cklives_any _).mono ?_
    rintro e w2 ⟨rfl, hl⟩
    go_wp2
    go_ret
    exact ⟨rfl, hl⟩
end Go.Proofs.Yteojbdchekgooaa
