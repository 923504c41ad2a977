/- slices.Sort of a row of ints of the call's own. No condition but its length. -/
import Derived.Test.YthbboiolhejmmaaNumG
import Derived.Test.YthbboiolhejmmaaShelf
import Derived.Sort.Grow
set_option maxRecDepth 100000
namespace Go.Proofs.Ythbboiolhejmmaa
open Go.RowKit
set_option linter.unusedVariables false

theorem sortI_any (t : TypeId) (w : World) (base : Nat) (A : Option Addr) (n c : Nat) (ys : List Int) (h : OwnN t w base A n c ys) (hn : n ≤ 1000000) :
    Calls Try.prog 21 #[.slice A n c] w fun e w' => e = .returned (.tuple #[]) ∧ n ≤ c ∧ Ns w' w'.heap.size A n (ys.mergeSort fun x y => decide (x ≤ y)) ∧ IFrom base A n ∧ Below base w w' := by
  have hl : ys.length = n := by have := h.1.1; rw [cellsN_length] at this; omega
  have hf := h.fromI
  have hp := List.mergeSort_perm ys (fun x y : Int => decide (x ≤ y))
  rcases h.1.2 with ⟨e, h0⟩ | ⟨g, cap, cur, hv, hbg, hg, hnc, hcm, hsz, htk⟩
  · injection e with e1 e2 e3
    subst e1 e2 e3
    obtain rfl : ys = [] := List.eq_nil_of_length_eq_zero hl
    refine (Try.slices_Sort_int_none none 0 w).mono ?_
    rintro e w' ⟨rfl, rfl⟩
    exact ⟨rfl, Nat.le_refl _, by simp; exact Ns.nil _ _ _, hf, Below.refl _ _⟩
  · injection hv with e1 _ e3
    subst e1 e3
    have hglt : g < w.heap.size := (Array.getElem?_eq_some_iff.1 hg).1
    have hH : Go.Sort.Holds (Value.int .i64) w g 0 ys.toArray := fun j hj => by
      have hj' : j < ys.length := by simpa using hj
      constructor
      · have h1 := World.ownsRow.cells h.1 (g := g) rfl j _ (cellsN_get hj')
        have e2 : ys.toArray[j]! = ys.getD j 0 := by rw [getElem!_pos ys.toArray j hj]; simp [List.getD, hj']
        rw [e2]
        simpa [Addr.add_lit] using h1
      · simp [World.frozen?, hg]
    rw [← hl]
    refine (Try.slices_Sort_int g 0 c ys w hH hglt (by omega)).mono ?_
    rintro e w' ⟨rfl, m, os, rfl⟩
    generalize hd : (ys.mergeSort fun x y => decide (x ≤ y)) = d at *
    have hdl : d.length = ys.length := hp.length_eq
    have hlow : Below base w (Go.Sort.grow (Go.Sort.putRow (Value.int .i64) (Go.Sort.ahead w m) g 0 d.toArray) os) := by
      refine ⟨rfl, rfl, rfl, by simp [Go.Sort.ahead], fun j hj => ?_⟩
      rw [Go.Sort.heap_grow_old _ _ (by simp [Go.Sort.ahead]; omega)]
      simp only [Go.Sort.putRow, Go.Sort.mapBlock, Array.getElem?_modify]
      rw [if_neg (by omega)]
      rfl
    refine ⟨rfl, by omega, ⟨hdl, fun x hx => h.2 x (hp.mem_iff.1 hx), fun h0 => ⟨g, 0, rfl, Nat.lt_of_lt_of_le hglt hlow.size, fun i hi => ?_⟩⟩, by rw [hl]; exact hf, hlow⟩
    rw [Go.Sort.cell?_grow _ _ _ (by simp [Go.Sort.ahead]; exact hglt)]
    have e := Go.Sort.cell?_putRow (Value.int .i64) (Go.Sort.ahead w m) g 0 ys.toArray d.toArray hH (by simp [hdl]) i (by simp [hdl]; exact hi)
    rw [e, getElem!_pos d.toArray i (by simp [hdl]; exact hi)]
    simp [List.getD, show i < d.length by omega]
end Go.Proofs.Ythbboiolhejmmaa
