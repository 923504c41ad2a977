/- Stage 23: ids taken out of a list (slices.DeleteFunc); Unset. No condition but that the wheel lies so. -/
import Derived.Test.YthbboiolhejmmaaWhI
import Derived.Test.YthbboiolhejmmaaDels
set_option maxRecDepth 100000
namespace Go.Proofs.Ythbboiolhejmmaa
open Go.RowKit Go.Maps
set_option linter.unusedVariables false
attribute [local go_sem] Oper.semAt_some

theorem delOwnW {t : TypeId} {w : World} {base blk n cap : Nat} {ys r : List Int} (h : OwnN t w base (some ⟨blk, 0, none⟩) n cap ys) (q : Nat) (hr : r.length ≤ n) (ha : AllI r) :
    OwnN t (Go.Sort.putRow (Value.int .i64) (Go.Sort.ahead w q) blk 0 (r ++ List.replicate (n - r.length) 0).toArray) base (some ⟨blk, 0, none⟩) r.length cap r ∧ w.grownBy (Go.Sort.putRow (Value.int .i64) (Go.Sort.ahead w q) blk 0 (r ++ List.replicate (n - r.length) 0).toArray) (some blk) := by
  rcases h.1.2 with ⟨e, _⟩ | ⟨g, cap', cur, e, hbg, hg, hnc, hcm, hsz, htk⟩
  · injection e with e
    cases e
  · injection e with e1 _ e3
    injection e1 with e1
    injection e1 with e1 _ _
    subst e1 e3
    constructor
    · refine ⟨⟨by rw [cellsN_length]; omega, .inr ⟨blk, cap, Go.Sort.putCells (Value.int .i64) 0 (r ++ List.replicate (n - r.length) 0).toArray cur, rfl, hbg, ?_, by omega, hcm, ?_, ?_⟩⟩, ha⟩
      · show (Array.modify _ _ _)[blk]? = _
        rw [Array.getElem?_modify, if_pos rfl]
        show Option.map _ (w.heap[blk]?) = _
        rw [hg]
        rfl
      · simp [Go.Sort.putCells, hsz]
      · apply List.ext_getElem?
        intro i
        rw [Nat.mul_one, List.getElem?_take]
        by_cases hi : i < r.length
        · rw [if_pos hi, cellsN_get hi]
          have hc : i < cur.size := by omega
          simp only [Go.Sort.putCells, Array.getElem?_toList, Array.getElem?_mapIdx, Array.getElem?_eq_getElem hc, Option.map_some]
          rw [if_pos ⟨Nat.zero_le _, by simp; omega⟩]
          have e : (r ++ List.replicate (n - r.length) 0).toArray[i - 0]! = r.getD i 0 := by
            rw [Nat.sub_zero, getElem!_pos _ i (by simp; omega)]
            simp [List.getD, hi]
          rw [e]
        · rw [if_neg hi, List.getElem?_eq_none (by rw [cellsN_length]; omega)]
    · refine ⟨rfl, rfl, rfl, by simp [Go.Sort.putRow, Go.Sort.mapBlock, Go.Sort.ahead], fun k _ hk => ?_⟩
      show (Array.modify _ _ _)[k]? = _
      rw [Array.getElem?_modify, if_neg (fun e => hk (by rw [e]))]
      rfl
theorem holdsW {t : TypeId} {w : World} {base blk n cap : Nat} {ys : List Int} (h : OwnN t w base (some ⟨blk, 0, none⟩) n cap ys) : Go.Sort.Holds (Value.int .i64) w blk 0 ys.toArray := fun j hj => by
  have hj' : j < ys.length := by simpa using hj
  rcases h.1.2 with ⟨e, _⟩ | ⟨g, cap', cur, e, hbg, hg, hnc, hcm, hsz, htk⟩
  · injection e with e
    cases e
  · injection e with e1 _ e3
    injection e1 with e1
    injection e1 with e1 _ _
    subst e1
    constructor
    · have h1 := World.ownsRow.cells h.1 (g := blk) rfl j _ (cellsN_get hj')
      have e2 : ys.toArray[j]! = ys.getD j 0 := by rw [getElem!_pos ys.toArray j hj]; simp [List.getD, hj']
      rw [e2]
      simpa [Addr.add_lit] using h1
    · simp [World.frozen?, hg]
/-- the closure -/
theorem whgives (id x : Int) (cb : Nat) (W : World) (hc : W.cell? ⟨cb, 0, none⟩ = some (.int .i64 id)) : FnGives Try.prog 20 #[.pointer (some ⟨cb, 0, none⟩)] #[.int .i64 x] (.bool (x == id)) W := by
  show Calls Try.prog 20 #[.int .i64 x, .pointer (some ⟨cb, 0, none⟩)] W _
  go_enter Try.func20, Try.ntmps20
  go_wp2_with fail
  go_ret
  exact ⟨rfl, 0, rfl⟩
theorem whdel_any (w : World) (blk cap n cb : Nat) (ys : List Int) (id : Int) (h : OwnN 3 w 0 (some ⟨blk, 0, none⟩) n cap ys) (hc : w.cell? ⟨cb, 0, none⟩ = some (.int .i64 id)) (hcb : cb < w.heap.size) (hne : cb ≠ blk) :
    Calls Try.prog 19 #[.slice (some ⟨blk, 0, none⟩) n cap, .func (.func 20) #[] #[.pointer (some ⟨cb, 0, none⟩)]] w fun e w' =>
      e = .returned (.slice (some ⟨blk, 0, none⟩) (ys.filter fun x => !(x == id)).length cap) ∧ OwnN 3 w' 0 (some ⟨blk, 0, none⟩) (ys.filter fun x => !(x == id)).length cap (ys.filter fun x => !(x == id)) ∧ w.grownBy w' (some blk) := by
  have eg : ∀ args w, (callFunc 20 args).run Try.prog w = .ok (.enter 20 args) w := enters_of Try.func20 (by kernel_rfl) rfl
  have hl := h.len
  have hcap := h.cap
  have hp : PredAt Try.prog 20 #[.pointer (some ⟨cb, 0, none⟩)] (Value.int .i64) (fun x => x == id) w := fun W x hb => whgives id x cb W ((hb.cell (p := ⟨cb, 0, none⟩) hcb).trans hc)
  have hpo : PredOver Try.prog 20 #[.pointer (some ⟨cb, 0, none⟩)] (Value.int .i64) (fun x => x == id) blk 0 ys.toArray.size w := fun m os dk x _ => whgives id x cb _ (by
    unfold sortWorld
    rw [Go.Sort.cell?_grow _ _ _ (by show cb < (Go.Sort.putRow _ _ _ _ _).heap.size; rw [Go.Sort.size_putRow]; exact hcb), Go.Sort.cell?_putRow_other _ _ blk 0 _ _ (Or.inl hne)]
    exact hc)
  have hcon := AnyE.slices_DeleteFunc Try.laysDel (Value.int .i64) (fun _ => rfl) (fun x => x == id) 20 #[.pointer (some ⟨cb, 0, none⟩)] eg 0 Try.zeroValue3 blk 0 cap ys.toArray w hp hpo (holdsW h) (by simp [maxLen] at hcap ⊢; omega) (by simp; omega)
  have e1 : ys.toArray.size = n := by simpa using hl
  have e2 : ys.toArray.toList = ys := rfl
  rw [e1, e2] at hcon
  refine Calls.mono (show Calls Try.prog 19 _ _ _ from hcon) ?_
  rintro e w' ⟨rfl, q, rfl⟩
  have hd := delOwnW h q (r := ys.filter fun x => !(x == id)) (by rw [← hl]; exact List.length_filter_le _ _) (fun x hx => h.2 x (List.mem_filter.1 hx).1)
  exact ⟨rfl, hd⟩
end Go.Proofs.Ythbboiolhejmmaa
