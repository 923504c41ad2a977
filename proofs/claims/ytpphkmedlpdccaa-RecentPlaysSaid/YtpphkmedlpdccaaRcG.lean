/- Stage 22: the program's own list: how it lies; its knot, whether it was made, what it can have, two links tied, one cut out. No condition but that it lies so. -/
import Derived.Test.YtpphkmedlpdccaaRcC
import Derived.Test.YtpphkmedlpdccaaRcF
import Derived.Test.YtpphkmedlpdccaaMid
import Derived.Test.YtpphkmedlpdccaaJReg
import Derived.Tactics2
import Derived.BigQuiet
import Derived.Laws.Pointers
import Derived.WalkLawsBesides
set_option maxRecDepth 100000
namespace Go.Proofs.Ytpphkmedlpdccaa
open Go.RowKit
set_option linter.unusedVariables false
attribute [local go_sem] Oper.semAt_some

theorem rcint_size : (Try.prog.info? 3).map (·.size) = some 1 := by kernel_rfl
theorem cellsN_set (ys : List Int) (i : Nat) (x : Int) : (cellsN ys).set i (.int .i64 x) = cellsN (ys.set i x) := by unfold cellsN; rw [List.map_set]
/-- the head of a list -/
abbrev headR (a b n : Nat) : List Value := [.slice (some ⟨a, 0, none⟩) (n + 1) (n + 1), .slice (some ⟨b, 0, none⟩) (n + 1) (n + 1)]
/-- a list in memory: its head at g, what is ahead at a, what is behind at b -/
structure RcAt (w : World) (g a b n : Nat) (va vb : List Int) : Prop where
  head : BlkV w 42 g (headR a b n)
  rowA : BlkN w 3 a va
  rowB : BlkN w 3 b vb
  lenA : va.length = n + 1
  lenB : vb.length = n + 1
  ab : a ≠ b
  n1 : 1 ≤ n
  n2 : n ≤ 256
/-- its blocks -/
def ownR (g a b : Nat) (k : Nat) : Prop := k = g ∨ k = a ∨ k = b
section
variable {w w' : World} {g a b n : Nat} {va vb : List Int}
theorem BlkN.sameR {t : TypeId} {g : Nat} {ys : List Int} (h : BlkN w t g ys) (e : w'.heap[g]? = w.heap[g]?) : BlkN w' t g ys := e.trans h
theorem RcAt.low (h : RcAt w g a b n va vb) (hl : Low w w') : RcAt w' g a b n va vb := ⟨h.head.below hl h.head.lt, h.rowA.below hl h.rowA.lt, h.rowB.below hl h.rowB.lt, h.lenA, h.lenB, h.ab, h.n1, h.n2⟩
theorem RcAt.keep (h : RcAt w g a b n va vb) (hk : ∀ k, ownR g a b k → w'.heap[k]? = w.heap[k]?) : RcAt w' g a b n va vb := ⟨h.head.same (hk g (.inl rfl)), h.rowA.sameR (hk a (.inr (.inl rfl))), h.rowB.sameR (hk b (.inr (.inr rfl))), h.lenA, h.lenB, h.ab, h.n1, h.n2⟩
theorem neR {t t' : TypeId} {vs vs' : List Value} {x y : Nat} (h1 : BlkV w t x vs) (h2 : BlkV w t' y vs') (ht : t ≠ t') : x ≠ y := fun e => by
  rw [e] at h1
  unfold BlkV at h1 h2
  rw [h1] at h2
  injection h2 with h2
  injection h2 with _ h2 _
  exact ht h2
theorem RcAt.ga (h : RcAt w g a b n va vb) : g ≠ a := neR h.head (show BlkV w 3 a (cellsN va) from h.rowA) (by decide +kernel)
theorem RcAt.gb (h : RcAt w g a b n va vb) : g ≠ b := neR h.head (show BlkV w 3 b (cellsN vb) from h.rowB) (by decide +kernel)
theorem RcAt.c0 (h : RcAt w g a b n va vb) : w.cell? ⟨g, 0, none⟩ = some (.slice (some ⟨a, 0, none⟩) (n + 1) (n + 1)) := h.head.cell 0
theorem RcAt.c1 (h : RcAt w g a b n va vb) : w.cell? ⟨g, 1, none⟩ = some (.slice (some ⟨b, 0, none⟩) (n + 1) (n + 1)) := h.head.cell 1
theorem RcAt.atA (h : RcAt w g a b n va vb) {i : Nat} (hi : i ≤ n) : w.cell? ⟨a, i, none⟩ = some (.int .i64 (va.getD i 0)) := by
  rw [h.rowA.cell i, cellsN_get (by rw [h.lenA]; omega)]
theorem RcAt.atB (h : RcAt w g a b n va vb) {i : Nat} (hi : i ≤ n) : w.cell? ⟨b, i, none⟩ = some (.int .i64 (vb.getD i 0)) := by
  rw [h.rowB.cell i, cellsN_get (by rw [h.lenB]; omega)]

theorem rcknot_any (h : RcAt w g a b n va vb) : Calls Try.prog 19 #[.pointer (some ⟨g, 0, none⟩)] w fun e w' => e = .returned (.int .i64 (n : Nat)) ∧ w' = w := by
  have c0 := h.c0
  have hn := h.n2
  clear h
  go_enter Try.func19, Try.ntmps19
  go_wp2_with fail
  go_ret
  exact ⟨rfl, rfl⟩
theorem rcmade_any (h : RcAt w g a b n va vb) : Calls Try.prog 20 #[.pointer (some ⟨g, 0, none⟩)] w fun e w' => e = .returned (.bool true) ∧ w' = w := by
  have c0 := h.c0
  clear h
  go_enter Try.func20, Try.ntmps20
  go_wp2_with fail
  go_ret
  exact ⟨rfl, rfl⟩
theorem rcmay_any (h : RcAt w g a b n va vb) (x : Int) : Calls Try.prog 17 #[.pointer (some ⟨g, 0, none⟩), .int .i64 x] w fun e w' => e = .returned (.bool (mayR n x)) ∧ w' = w := by
  have HM := Lib.hid (rcmade_any h)
  have HK := Lib.hid (rcknot_any h)
  clear h
  unfold mayR
  go_enter Try.func17, Try.ntmps17
  go_wp2_with fail
  refine HM.out.mono ?_
  rintro e w2 ⟨rfl, rfl⟩
  by_cases h0 : 0 ≤ x
  · go_wp2_with fail
    refine HK.out.mono ?_
    rintro e w3 ⟨rfl, rfl⟩
    go_wp2_with fail
    go_ret
    exact ⟨by simp [h0], rfl⟩
  · go_wp2_with fail
    go_ret
    exact ⟨by simp; omega, rfl⟩
/-- what tie does -/
def TiedR (w : World) (g a b n : Nat) (va vb : List Int) (e : Ending) (w' : World) : Prop := e = .returned (.tuple #[]) ∧ RcAt w' g a b n va vb ∧ Out (ownR g a b) w w'
theorem Out.storeR {F : Nat → Prop} {w2 : World} (h : Out F w w') {b : Nat} (hF : F b) (hb : Below b w' w2) (hz : w2.heap.size = w'.heap.size) (ho : ∀ k : Nat, k ≠ b → w2.heap[k]? = w'.heap[k]?) : Out F w w2 :=
  ⟨hb.os.trans h.os, hb.tape.trans h.tape, hb.output.trans h.output, by rw [hz]; exact h.size, fun k hk hn => (ho k (fun e => hn (e ▸ hF))).trans (h.block k hk hn)⟩
set_option maxHeartbeats 1600000 in
set_option maxRecDepth 100000 in
theorem rctie_any (h : RcAt w g a b n va vb) {i j : Nat} (hi : i ≤ n) (hj : j ≤ n) : Calls Try.prog 16 #[.pointer (some ⟨g, 0, none⟩), .int .i64 i, .int .i64 j] w (TiedR w g a b n (va.set j i) (vb.set i j)) := by
  have HT := Lib.hid h
  have hi2 : (i : Int) < (n : Int) + 1 := by omega
  have hj2 : (j : Int) < (n : Int) + 1 := by omega
  have hga := h.ga
  have hgb := h.gb
  have hab := h.ab
  have hn := h.n2
  clear h
  go_enter Try.func16, Try.ntmps16
  refine wp_region_planN (fun y => BlkV y 42 g (headR a b n)) (.rd 0 (.rd 1 (.rd 2 (.rd 3 (.rd 4 (.rd 5 (.rd 6 (.rd 7 (.rd 8 (.rd 9 (.rd 10 (.rd 11 (.rd 12 (.act 13 (.rd 14 (.act 15 (.done)))))))))))))))))
    (by kernel_rfl) (by kernel_rfl) (by kernel_rfl) HT.out.head ?_
  have hld : Low w w.drew := Below.drew (Below.refl _ w)
  have TD := Lib.hid (HT.out.low hld)
  have HOD := Lib.hid (Out.low (F := ownR g a b) hld)
  clear hld HT
  generalize w.drew = w1 at *
  iterate 13 (refine walkS_read (v := _) rfl (by rfl) (by
                    intro y hy
                    have q0 : y.cell? ⟨g, 0, none⟩ = some (.slice (some ⟨a, 0, none⟩) (n + 1) (n + 1)) := hy.cell 0
                    have q1 : y.cell? ⟨g, 1, none⟩ = some (.slice (some ⟨b, 0, none⟩) (n + 1) (n + 1)) := hy.cell 1
                    clear hy
                    first
                    | (go_simp; try rfl)) ?_; simp only [Act.put, List.setIfInBounds_toArray, List.set_cons_zero, List.set_cons_succ])
  refine walkS_act rfl (by rfl) (fun K hK => ?_)
  refine wp_store_one _ _ _ rfl b i (by simp [Act.eval]) (.int .i64 j) rfl rfl rfl 3 (cellsN vb) TD.out.rowB (by rw [cellsN_length, TD.out.lenB]; omega) rcint_size (fun w2 h2 hb2 hz2 ho2 => ?_)
  have hh2 := TD.out.head.same (ho2 g hgb)
  have ha2 := TD.out.rowA.sameR (ho2 a hab)
  refine hK _ _ hh2 ?_
  clear hK K
  have HO2 := Lib.hid (HOD.out.storeR (.inr (.inr rfl)) hb2 hz2 ho2)
  rw [cellsN_set] at h2
  have H2 := Lib.hid (show BlkN w2 3 b (vb.set i j) from h2)
  have HA2 := Lib.hid ha2
  clear h2 hb2 hz2 ho2 ha2
  iterate 1 (refine walkS_read (v := _) rfl (by rfl) (by
                    intro y hy
                    have q0 : y.cell? ⟨g, 0, none⟩ = some (.slice (some ⟨a, 0, none⟩) (n + 1) (n + 1)) := hy.cell 0
                    have q1 : y.cell? ⟨g, 1, none⟩ = some (.slice (some ⟨b, 0, none⟩) (n + 1) (n + 1)) := hy.cell 1
                    clear hy
                    first
                    | (go_simp; try rfl)) ?_; simp only [Act.put, List.setIfInBounds_toArray, List.set_cons_zero, List.set_cons_succ])
  refine walkS_act rfl (by rfl) (fun K hK => ?_)
  refine wp_store_one _ _ _ rfl a j (by simp [Act.eval]) (.int .i64 i) rfl rfl rfl 3 (cellsN va) HA2.out (by rw [cellsN_length, TD.out.lenA]; omega) rcint_size (fun w3 h3 hb3 hz3 ho3 => ?_)
  have hh3 := hh2.same (ho3 g hga)
  have hb3' := H2.out.sameR (ho3 b (Ne.symm hab))
  refine hK _ _ hh3 ?_
  clear hK K
  have HO3 := Lib.hid (HO2.out.storeR (.inr (.inl rfl)) hb3 hz3 ho3)
  rw [cellsN_set] at h3
  have T3 := Lib.hid (show RcAt w3 g a b n (va.set j i) (vb.set i j) from ⟨hh3, h3, hb3', by rw [List.length_set]; exact TD.out.lenA, by rw [List.length_set]; exact TD.out.lenB, hab, TD.out.n1, hn⟩)
  unfold walkS orThrow
  dsimp only
  clear h3 hb3 hz3 ho3 hh2 hh3 hb3' H2 HA2 HO2 HOD TD
  go_wp2_with fail
  go_end0
  exact ⟨rfl, T3.out, HO3.out⟩
end
end Go.Proofs.Ytpphkmedlpdccaa
