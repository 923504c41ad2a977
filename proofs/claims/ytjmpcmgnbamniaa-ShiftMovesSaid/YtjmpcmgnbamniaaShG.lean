/- Stage 19: what the laws ask of every program, given its own three functions. No condition. -/
import Derived.Test.YtjmpcmgnbamniaaShF
import Derived.Test.YtjmpcmgnbamniaaPiD
set_option maxRecDepth 100000
namespace Go.Proofs.Ytjmpcmgnbamniaa
open Go.RowKit
set_option linter.unusedVariables false

theorem rows112 : rowsS [1, 1, 2] [1, 2, 2] = [⟨1, 2, 1, 1⟩, ⟨2, 1, 2, 1⟩] := by rfl
theorem moved112 : movedS [1, 1, 2] [1, 2, 2] = 1 := by decide +kernel
theorem turned12 : turnedS [1] [2] [0] = 1 := by decide +kernel
theorem all112 : AllI [1, 1, 2] := .cons (by omega) (by omega) (.cons (by omega) (by omega) (.cons (by omega) (by omega) .nil))
theorem all122 : AllI [1, 2, 2] := .cons (by omega) (by omega) (.cons (by omega) (by omega) (.cons (by omega) (by omega) .nil))
theorem all1 : AllI [1] := .cons (by omega) (by omega) .nil
theorem all2 : AllI [2] := .cons (by omega) (by omega) .nil
theorem two_fresh (w : World) (t : TypeId) (xs ys : List Int) (hx : AllI xs) (hy : AllI ys) :
    Ns ((w.alloc (.cells (cellsN xs).toArray t)).alloc (.cells (cellsN ys).toArray t)) ((w.alloc (.cells (cellsN xs).toArray t)).alloc (.cells (cellsN ys).toArray t)).heap.size (some ⟨w.heap.size, 0, none⟩) xs.length xs ∧
    Ns ((w.alloc (.cells (cellsN xs).toArray t)).alloc (.cells (cellsN ys).toArray t)) ((w.alloc (.cells (cellsN xs).toArray t)).alloc (.cells (cellsN ys).toArray t)).heap.size (some ⟨w.heap.size + 1, 0, none⟩) ys.length ys ∧
    Low w ((w.alloc (.cells (cellsN xs).toArray t)).alloc (.cells (cellsN ys).toArray t)) := by
  have h1 := ns_fresh w t xs hx
  have h2 := ns_fresh (w.alloc (.cells (cellsN xs).toArray t)) t ys hy
  have hl := Low.alloc (w.alloc (.cells (cellsN xs).toArray t)) (.cells (cellsN ys).toArray t)
  refine ⟨h1.below' hl hl.size, ?_, (Low.alloc w _).trans hl⟩
  have e : (w.alloc (.cells (cellsN xs).toArray t)).heap.size = w.heap.size + 1 := by simp
  rw [e] at h2
  exact h2
set_option maxHeartbeats 3200000 in
theorem shlives_any (HR : ShRows) (HM : ShMoveds) (HT : ShTurneds) (w : World) : Calls Try.prog 6 #[] w fun e w' => e = .returned (.bool true) ∧ Low w w' := by
  have HRR := Lib.hid HR
  have HMM := Lib.hid HM
  have HTT := Lib.hid HT
  clear HR HM HT
  obtain ⟨h1, h2, hl⟩ := two_fresh w 3 [1, 1, 2] [1, 2, 2] all112 all122
  go_enter Try.func6, Try.ntmps6
  go_wp2_with fail
  change Calls _ _ _ ((w.alloc (.cells (cellsN [1, 1, 2]).toArray 3)).alloc (.cells (cellsN [1, 2, 2]).toArray 3)) _
  have hL := Lib.hid hl
  clear hl
  generalize (w.alloc (.cells (cellsN [1, 1, 2]).toArray 3)).alloc (.cells (cellsN [1, 2, 2]).toArray 3) = w1 at *
  refine (HRR.out _ _ 3 3 3 3 [1, 1, 2] [1, 2, 2] w1 (by omega) (by omega) (by omega) (by omega) h1 h2).mono ?_
  intro e w2 hg
  rw [rows112] at hg
  obtain ⟨A2, c2, rfl, hE, hl⟩ := hg
  replace hL := Lib.hid (hL.out.trans hl)
  obtain ⟨b, o, rfl, _, _⟩ := hE.mem (by simp)
  have hrg := (hE.at_ (i := 0) (by simp)).2
  have HRG := Lib.hid (show w2.rangeAt b o [.int .i64 1, .int .i64 2, .int .i64 1, .int .i64 1] by simpa [rwsE, rwsC] using hrg)
  have heq := fun u => eq_rws ⟨1, 2, 1, 1⟩ ⟨1, 2, 1, 1⟩ u
  rw [show eqRws ⟨1, 2, 1, 1⟩ ⟨1, 2, 1, 1⟩ = true from by decide] at heq
  clear hl h1 h2 hE hrg
  go_wp2_with (refine wpList_load_mid_g rfl 29 (.tmp 10) rfl b o rfl [.int .i64 1, .int .i64 2, .int .i64 1, .int .i64 1] _ HRG.out Try.underlying29 rfl srow_size ?_; refine Hid.out ?_)
  refine Lib.hid ?_
  obtain ⟨h1, h2, hl⟩ := two_fresh w2 3 [1, 1, 2] [1, 2, 2] all112 all122
  go_wp2_with fail
  change Calls _ _ _ ((w2.alloc (.cells (cellsN [1, 1, 2]).toArray 3)).alloc (.cells (cellsN [1, 2, 2]).toArray 3)) _
  replace hL := Lib.hid (hL.out.trans hl)
  clear hl heq HRG
  generalize (w2.alloc (.cells (cellsN [1, 1, 2]).toArray 3)).alloc (.cells (cellsN [1, 2, 2]).toArray 3) = w3 at *
  refine (HMM.out _ _ 3 3 3 3 [1, 1, 2] [1, 2, 2] w3 (by omega) (by omega) (by omega) (by omega) h1 h2).mono ?_
  rintro e w4 ⟨rfl, hl⟩
  rw [moved112]
  replace hL := Lib.hid (hL.out.trans hl)
  clear hl h1 h2
  obtain ⟨h1, h2, hl⟩ := two_fresh w4 3 [1] [2] all1 all2
  go_wp2_with fail
  change Calls _ _ _ (((w4.alloc (.cells (cellsN [1]).toArray 3)).alloc (.cells (cellsN [2]).toArray 3)).alloc (.cells #[.int .u64 0] 36)) _
  have hsz : ((w4.alloc (.cells (cellsN [1]).toArray 3)).alloc (.cells (cellsN [2]).toArray 3)).heap.size = w4.heap.size + 1 + 1 := by simp
  generalize (w4.alloc (.cells (cellsN [1]).toArray 3)).alloc (.cells (cellsN [2]).toArray 3) = w5 at *
  have hl6 := Low.alloc w5 (.cells #[.int .u64 0] 36)
  have hE : Hs (w5.alloc (.cells #[.int .u64 0] 36)) (w5.alloc (.cells #[.int .u64 0] 36)).heap.size (some ⟨w4.heap.size + 1 + 1, 0, none⟩) 1 [0] := by
    refine ⟨?_, fun h hh => ?_⟩
    · rw [← hsz, show (w5.alloc (.cells #[.int .u64 0] 36)).heap.size = w5.heap.size + 1 by simp]
      exact Es.one_ (E := u64E) w5 36 0 trivial (Nat.lt_succ_self _)
    · obtain rfl := List.mem_singleton.1 hh
      omega
  replace h1 := h1.below' hl6 hl6.size
  replace h2 := h2.below' hl6 hl6.size
  replace hL := Lib.hid ((hL.out.trans hl).trans hl6)
  clear hl hl6 hsz
  generalize w5.alloc (.cells #[.int .u64 0] 36) = w6 at *
  refine (HTT.out _ _ _ 1 1 1 1 1 1 [1] [2] [0] w6 (by omega) (by omega) (by omega) (by omega) (by omega) (by omega) h1 h2 hE).mono ?_
  rintro e w7 ⟨rfl, hl⟩
  rw [turned12]
  replace hL := Lib.hid (hL.out.trans hl)
  clear hl h1 h2 hE
  go_wp2_with fail
  go_ret
  exact ⟨rfl, hL.out⟩
end Go.Proofs.Ytjmpcmgnbamniaa
