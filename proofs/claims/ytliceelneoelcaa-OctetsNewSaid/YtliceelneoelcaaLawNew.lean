/- The law OctetsNew answers true for every input. Condition: the slice is at most 2^47 bytes long. -/
import Derived.Test.YtliceelneoelcaaOctU
namespace Go.Proofs.Ytliceelneoelcaa
open Go.RowKit
set_option linter.unusedVariables false

/-- the slice lies in a block of the call's own, from 'base' on, which is just its bytes -/
def Wr (w : World) (base : Nat) (A : Option Addr) (n : Nat) : Prop := 0 < n → ∃ g ys, A = some ⟨g, 0, none⟩ ∧ base ≤ g ∧ Blk w 5 g ys ∧ ys.length = n ∧ AllB ys
theorem Wr.zero (w : World) (base : Nat) (A : Option Addr) : Wr w base A 0 := fun h => absurd h (by omega)
theorem Wr.below {w w' : World} {base n : Nat} {A : Option Addr} (h : Wr w base A n) (hb : Below w.heap.size w w') : Wr w' base A n := fun hn => by
  obtain ⟨g, ys, e, hg, hk, hl, ha⟩ := h hn
  exact ⟨g, ys, e, hg, hk.below hb hk.lt, hl, ha⟩
theorem Wr.set {w : World} {base n g i : Nat} {A : Option Addr} {x : Int} (h : Wr w base A n) (h0 : 0 ≤ x) (h1 : x < 256) : Wr (w.setCell ⟨g, i, none⟩ (.int .u8 x)) base A n := fun hn => by
  obtain ⟨g', ys, e, hg, hk, hl, ha⟩ := h hn
  by_cases hgg : g' = g
  · subst hgg
    exact ⟨g', _, e, hg, hk.set_ i x, by simp [hl], ha.set _ h0 h1⟩
  · exact ⟨g', ys, e, hg, hk.far (p := ⟨g, i, none⟩) hgg _, hl, ha⟩

structure Inv (w wr : World) (A B C : Option Addr) (a b c : Nat) : Prop where
  low : Below w.heap.size w wr
  fst : Wr wr w.heap.size A a
  snd : Wr wr w.heap.size B b
  thd : Wr wr w.heap.size C c
theorem Inv.set {w wr : World} {A B C : Option Addr} {a b c g i : Nat} {x : Int} (h : Inv w wr A B C a b c) (hg : w.heap.size ≤ g) (h0 : 0 ≤ x) (h1 : x < 256) : Inv w (wr.setCell ⟨g, i, none⟩ (.int .u8 x)) A B C a b c :=
  ⟨h.low.setCell hg _, h.fst.set h0 h1, h.snd.set h0 h1, h.thd.set h0 h1⟩

/-- a slice of the call's own is handed back, and a bool -/
def GivesW (w : World) (n : Nat) (e : Ending) (w' : World) : Prop :=
  ∃ A' k' c' ok, e = .returned (.tuple #[.slice A' k' c', .bool ok]) ∧ k' ≤ n ∧ Wr w' w.heap.size A' k' ∧ Below w.heap.size w w'

theorem cut_w (A : Option Addr) (n c : Nat) (p k : Int) (xs : List Int) (w : World) (hn : n ≤ 140737488355328) (hc : n ≤ c) (hc2 : c ≤ 9223372036854775807) (hp : i64ok p) (hk : i64ok k) (hb : Bs w w.heap.size A n xs) :
    Calls Try.prog 11 #[.slice A n c, .int .i64 p, .int .i64 k] w (GivesW w n) := by
  unfold i64ok at hp hk
  by_cases h : 0 ≤ p ∧ 0 ≤ k ∧ p + k ≤ n
  · refine (cut_yes A n c p k p.toNat k.toNat xs w hn hc hc2 hb (by omega) (by omega) (by omega)).mono ?_
    rintro e w' ⟨v, rfl, g, rfl, hg, hk2, hl, ha, hB⟩
    exact ⟨some ⟨g, 0, none⟩, k.toNat, k.toNat, _, rfl, by omega, fun _ => ⟨g, _, rfl, hg, hk2, hl, ha⟩, hB⟩
  · refine (cut_no A n c p k w hn hp.2 (by omega)).mono ?_
    rintro e w' ⟨rfl, rfl⟩
    exact ⟨none, 0, 0, _, rfl, by omega, Wr.zero _ _ _, Below.refl _ _⟩
theorem set16_w (A : Option Addr) (n c : Nat) (p x : Int) (xs : List Int) (w : World) (hn : n ≤ 140737488355328) (hp : i64ok p) (hx : i64ok x) (hb : Bs w w.heap.size A n xs) :
    Calls Try.prog 16 #[.slice A n c, .int .i64 p, .int .i64 x] w (GivesW w n) := by
  by_cases h : 0 ≤ p ∧ p + 2 ≤ n
  · refine (set16_yes A n c p p.toNat x xs w hn hx hb (by omega) (by omega)).mono ?_
    rintro e w' ⟨v, rfl, g, rfl, hg, hk2, hl, ha, hB⟩
    exact ⟨some ⟨g, 0, none⟩, n, n, _, rfl, by omega, fun _ => ⟨g, _, rfl, hg, hk2, hl, ha⟩, hB⟩
  · unfold i64ok at hp
    refine (set16_no A n c p x w hn hp.2 (by omega)).mono ?_
    rintro e w' ⟨rfl, rfl⟩
    exact ⟨none, 0, 0, _, rfl, by omega, Wr.zero _ _ _, Below.refl _ _⟩

set_option maxHeartbeats 1000000 in
set_option maxRecDepth 100000 in
theorem new_walk (A : Option Addr) (n c : Nat) (p k : Int) (xs : List Int) (w : World) (hn : n ≤ 140737488355328) (hc : n ≤ c) (hc2 : c ≤ 9223372036854775807) (hp : i64ok p) (hk : i64ok k) (hb : Bs w w.heap.size A n xs) :
    Calls Try.prog 6 #[.slice A n c, .int .i64 p, .int .i64 k] w fun e w' => e = .returned (.bool true) ∧ Below w.heap.size w w' := by
  have hcv := conv_bs (c := c) hb
  go_enter Try.func6, Try.ntmps6
  go_wp2_with fail
  clear hcv
  refine (cut_w A n c p k xs w hn hc hc2 hp hk hb).mono ?_
  rintro e w1 ⟨A1, n1, c1, ok1, rfl, hn1, hw1, hB1⟩
  go_wp2_with fail
  refine (set16_w A n c p k xs w1 hn hp hk (hb.below' hB1 hB1.size)).mono ?_
  rintro e w2 ⟨A2, n2, c2, ok2, rfl, hn2, hw2, hB⟩
  have hw1' := hw1.below hB
  have hB2 := hB1.trans (hB.mono hB1.size)
  have hw2' : Wr w2 w.heap.size A2 n2 := fun h => by
    obtain ⟨g, ys, e, hg, r⟩ := hw2 h
    exact ⟨g, ys, e, Nat.le_trans hB1.size hg, r⟩
  clear hw1 hB1 hB hw2
  go_wp2_with fail
  have hB3 : Below w2.heap.size w2 (w2.alloc (.cells #[.slice A n c] 22)) := (Below.refl _ _).alloc (Nat.le_refl _) _
  refine (join1 A n c w2.heap.size 22 xs _ (by omega) (heap_alloc_new _ _) ((hb.below' hB2 hB2.size).below' hB3 hB3.size)).mono ?_
  rintro e w4 ⟨v, rfl, hnew⟩
  obtain ⟨g, rfl, hg, hk4, hl4, ha4, hB4⟩ := hnew.wider hB3
  have hI : Inv w w4 A1 A2 (some ⟨g, 0, none⟩) n1 n2 n :=
    ⟨hB2.trans (hB4.mono hB2.size), hw1'.below hB4, hw2'.below hB4, fun _ => ⟨g, xs, rfl, Nat.le_trans hB2.size hg, hk4, hl4, ha4⟩⟩
  clear hnew hB3 hB2 hw1' hw2' hg hk4 hl4 ha4 hB4
  go_wp2_with fail
  go_loopw [13] (fun i wr => ∃ j : Nat, j ≤ n1 ∧ i = .int .i64 j ∧ Inv w wr A1 A2 (some ⟨g, 0, none⟩) n1 n2 n) (fun i _ => n1 - (intOf i).toNat)
  case atStart => exact ⟨0, Nat.zero_le _, rfl, hI⟩
  case round =>
    obtain ⟨j, hj, rfl, hJ⟩ := hrel
    clear hI
    by_cases hlt : j < n1
    · obtain ⟨g1, ys, he1, hg1, hk1, hl1, ha1⟩ := hJ.fst (by omega)
      subst he1
      skip
      have h0 : wr.cell? ⟨g1, j, none⟩ = some (.int .u8 (ys.getD j 0)) := by rw [hk1.cell, cellsB_get (by omega)]
      have f0 := hk1.frozen j
      have hy := ha1.getD j
      clear hk1 hl1 ha1
      generalize ys.getD j 0 = y at *
      go_wp2
      go_roundw
      case rel => exact ⟨j + 1, by omega, by go_num, hJ.set hg1 (by omega) (by omega)⟩
      case measure => simp [intOf]; omega
    · have hI := hJ
      clear hJ
      go_wp2_with fail
      go_loopw [14] (fun i wr => ∃ j : Nat, j ≤ n2 ∧ i = .int .i64 j ∧ Inv w wr A1 A2 (some ⟨g, 0, none⟩) n1 n2 n) (fun i _ => n2 - (intOf i).toNat)
      case atStart => exact ⟨0, Nat.zero_le _, rfl, hI⟩
      case round =>
        obtain ⟨j, hj, rfl, hJ⟩ := hrel
        clear hI
        by_cases hlt : j < n2
        · obtain ⟨g1, ys, he1, hg1, hk1, hl1, ha1⟩ := hJ.snd (by omega)
          subst he1
          skip
          have h0 : wr.cell? ⟨g1, j, none⟩ = some (.int .u8 (ys.getD j 0)) := by rw [hk1.cell, cellsB_get (by omega)]
          have f0 := hk1.frozen j
          have hy := ha1.getD j
          clear hk1 hl1 ha1
          generalize ys.getD j 0 = y at *
          go_wp2
          go_roundw
          case rel => exact ⟨j + 1, by omega, by go_num, hJ.set hg1 (by omega) (by omega)⟩
          case measure => simp [intOf]; omega
        · have hI := hJ
          clear hJ
          go_wp2_with fail
          go_loopw [15] (fun i wr => ∃ j : Nat, j ≤ n ∧ i = .int .i64 j ∧ Inv w wr A1 A2 (some ⟨g, 0, none⟩) n1 n2 n) (fun i _ => n - (intOf i).toNat)
          case atStart => exact ⟨0, Nat.zero_le _, rfl, hI⟩
          case round =>
            obtain ⟨j, hj, rfl, hJ⟩ := hrel
            clear hI
            by_cases hlt : j < n
            · obtain ⟨g1, ys, he1, hg1, hk1, hl1, ha1⟩ := hJ.thd (by omega)
              obtain rfl : g = g1 := by injection he1 with e1; injection e1
              clear he1
              have h0 : wr.cell? ⟨g, j, none⟩ = some (.int .u8 (ys.getD j 0)) := by rw [hk1.cell, cellsB_get (by omega)]
              have f0 := hk1.frozen j
              have hy := ha1.getD j
              clear hk1 hl1 ha1
              generalize ys.getD j 0 = y at *
              go_wp2
              go_roundw
              case rel => exact ⟨j + 1, by omega, by go_num, hJ.set hg1 (by omega) (by omega)⟩
              case measure => simp [intOf]; omega
            · have hI := hJ
              clear hJ
              have hcv := conv_bs (c := c) (hb.below hI.low)
              go_wp2_with fail
              clear hcv
              refine (lives_any wr).mono ?_
              rintro e w7 ⟨rfl, hB⟩
              have hB7 := hI.low.trans (hB.mono hI.low.size)
              clear hI hB
              go_wp2
              go_ret
              exact ⟨rfl, hB7⟩
end Go.Proofs.Ytliceelneoelcaa
