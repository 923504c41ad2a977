/- What the comparing closure of flow.ordered tells; what slices.Clone of flows tells; the order as the library's sort asks it. Conditions: addresses are 16 bytes, ports are ints; at most 60 flows. -/
import Derived.Test.YtjafjapnmffohaaDoorFlN
import Derived.Shelf.SlSortCmp.WholeK
import Derived.Shelf.SlSortCmp.NoneTotal
import Derived.Lib.SliceRun
set_option maxRecDepth 100000
namespace Go.Proofs.YtjafjapnmffohaaDoor
open Go.RowKit
set_option linter.unusedVariables false

def cmpF (a b : Fw) : Int := if lessF a b then -1 else if lessF b a then 1 else 0
abbrev FwO : Type := {f : Fw // f.ok}
instance instFwO : Inhabited FwO := ⟨⟨zeroF, zeroF_ok⟩⟩
def cmpO (a b : FwO) : Int := cmpF a.1 b.1
def encO (a : FwO) : List Value := fwC a.1
theorem ltO (a b : FwO) : ltOf cmpO a b = lessF a.1 b.1 := by
  unfold ltOf cmpO cmpF
  cases lessF a.1 b.1
  · cases lessF b.1 a.1 <;> rfl
  · rfl
theorem swoO : Go.Sort.SWO (ltOf cmpO) where
  irrefl x := by rw [ltO]; exact lessF_irr _
  trans x y z h1 h2 := by rw [ltO] at *; exact lessF_trans h1 h2
  ntrans x y z h1 h2 := by
    rw [ltO] at *
    cases h : lessF x.1 z.1
    · rfl
    · by_cases e1 : x.1 = y.1
      · rw [e1, h2] at h
        exact absurd h (by decide)
      · rcases lessF_tri x.2 y.2 e1 with ⟨k, _⟩ | ⟨_, k⟩
        · rw [h1] at k
          exact absurd k (by decide)
        · by_cases e2 : y.1 = z.1
          · rw [← e2, h1] at h
            exact absurd h (by decide)
          · rcases lessF_tri y.2 z.2 e2 with ⟨k2, _⟩ | ⟨_, k2⟩
            · rw [h2] at k2
              exact absurd k2 (by decide)
            · have t := lessF_trans h (lessF_trans k2 k)
              rw [lessF_irr] at t
              exact absurd t (by decide)

set_option maxRecDepth 100000 in
set_option maxHeartbeats 1600000 in
theorem cmp_any (a b : Fw) (g : Nat) (w : World) (ha : a.ok) (hb : b.ok) (hg : w.cell? ⟨g, 0, none⟩ = some (.func (.func 16) #[] #[])) :
    Calls Tryd.prog 37 #[fwV a, fwV b, .pointer (some ⟨g, 0, none⟩)] w fun e w' => e = .returned (.int .i64 (cmpF a b)) ∧ Ext w w' := by
  have HA := Lib.hid ha
  have HB := Lib.hid hb
  have HC1 := Lib.hid (fun w => fless_ext a b w ha hb)
  have HC2 := Lib.hid (fun w => fless_ext b a w hb ha)
  have HE := Lib.hid (show cmpF a b = if lessF a b then -1 else if lessF b a then 1 else 0 from rfl)
  have hlt : g < w.heap.size := World.block_lt_of_cell? _ _ hg
  unfold fwV at *
  generalize cmpF a b = r at *
  clear ha hb
  go_enter Tryd.func37, Tryd.ntmps37
  go_wp2_with (first
    | ((with_reducible refine wpList_box_fwX rfl (.tmp 0) rfl a rfl ?_); intro w1 HBA hL hz1)
    | ((with_reducible refine wpList_box_fwX rfl (.tmp 1) rfl b rfl ?_); intro w2 HBB hl hz2; refine Hid.out ?_))
  refine Lib.hid ?_
  rw [hz1] at HBB
  have hg2 : w2.cell? ⟨g, 0, none⟩ = some (.func (.func 16) #[] #[]) := ((hL.trans hl).low.cell (p := ⟨g, 0, none⟩) hlt).trans hg
  replace HBA := Lib.hid (HBA.below hl.low HBA.lt)
  replace HBB := Lib.hid HBB
  replace hL := hL.trans hl
  clear hz2 hl hg hz1
  generalize w.heap.size = G at *
  go_wp2_with (first
    | (with_reducible refine wpList_load_fw rfl (.tmp 3) rfl G rfl a HBA.out HA.out.s HA.out.d ?_)
    | (with_reducible refine wpList_load_fw rfl (.tmp 4) rfl (G + 1) rfl b HBB.out HB.out.s HB.out.d ?_))
  refine (HC1.out w2).mono ?_
  rintro e w3 ⟨rfl, hl⟩
  have hg3 : w3.cell? ⟨g, 0, none⟩ = some (.func (.func 16) #[] #[]) := (hl.low.cell (p := ⟨g, 0, none⟩) (World.block_lt_of_cell? _ _ hg2)).trans hg2
  replace HBA := Lib.hid (HBA.out.below hl.low HBA.out.lt)
  replace HBB := Lib.hid (HBB.out.below hl.low HBB.out.lt)
  replace hL := hL.trans hl
  clear hl hg2 HC1
  cases h1 : lessF a b
  · rw [h1] at HE
    clear h1
    go_wp2_with (first
      | (with_reducible refine wpList_load_fw rfl (.tmp 3) rfl G rfl a HBA.out HA.out.s HA.out.d ?_)
      | (with_reducible refine wpList_load_fw rfl (.tmp 4) rfl (G + 1) rfl b HBB.out HB.out.s HB.out.d ?_))
    refine (HC2.out w3).mono ?_
    rintro e w4 ⟨rfl, hl⟩
    replace hL := hL.trans hl
    clear hl hg3 HC2
    cases h2 : lessF b a
    · rw [h2] at HE
      clear h2
      go_wp2_with fail
      go_ret
      exact ⟨by rw [HE.out]; rfl, hL⟩
    · rw [h2] at HE
      clear h2
      go_wp2_with fail
      go_ret
      exact ⟨by rw [HE.out]; rfl, hL⟩
  · rw [h1] at HE
    clear h1
    go_wp2_with fail
    go_ret
    exact ⟨by rw [HE.out]; rfl, hL⟩

theorem OwnE.fresh {α : Type} (E : Elt α) (w : World) (t : TypeId) {base : Nat} (hb : base ≤ w.heap.size) : OwnE E t (w.alloc (.cells #[] t)) base (some ⟨w.heap.size, 0, none⟩) 0 0 [] :=
  ⟨⟨by simp [Elt.flat], .inr ⟨w.heap.size, 0, #[], rfl, hb, heap_alloc_new w (.cells #[] t), Nat.le_refl _, by simp [maxLen], by simp, by simp [Elt.flat]⟩⟩, Elt.all_nil, rfl⟩
set_option maxRecDepth 100000 in
set_option maxHeartbeats 1600000 in
theorem cloneF_some (ad : Addr) (n c : Nat) (l : List Fw) (w : World) (hn : n ≤ 60) (hb : Es fwE w w.heap.size (some ad) n l) : Calls Tryd.prog 35 #[.slice (some ad) n c] w fun e w' => ∃ A' c', e = .returned (.slice A' n c') ∧ OwnE fwE 25 w' w.heap.size A' n c' l ∧ Low w w' := by
  obtain ⟨i0, hi, hz0, hz1, hz2⟩ := info_parts info_flow
  have HI := Lib.hid hi
  have HZ0 := Lib.hid hz0
  have HZ1 := Lib.hid hz1
  have HZ2 := Lib.hid hz2
  have hl := Low.alloc w (.cells #[] 25)
  have hO := OwnE.fresh fwE (base := w.heap.size) w 25 (Nat.le_refl _)
  have hb1 := hb.below hl
  have HLT := Lib.hid hO.lt
  have HL := Lib.hid hl
  have hnil : (binOp .eql 32 (.slice (some ad) n c) (.slice none 0 0)).run Tryd.prog w = .ok (.bool false) w := Lib.run_eql_slice_nil w 32 25 (some ad) n c 0 0 Tryd.underlying32
  clear hb hl hi hz0 hz1 hz2
  go_enter Tryd.func35, Tryd.ntmps35
  go_wp2_with (at_builtin; refine wpList_append_es (E := fwE) rfl _ _ _ rfl w.heap.size 25 i0 _ 48 Tryd.underlying32 HI.out HZ0.out HZ1.out (by simp [fwV, Value.cells, fwC_length (f := zeroF) rfl rfl]; rfl) HZ2.out _ 0 0 [] rfl hO _ n c w.heap.size l rfl hb1 (by omega) (by omega) (by simp) ?_; intro A2 c2 w1 hown hgr hob; refine Hid.out ?_)
  refine Lib.hid ?_
  have hB := HL.out.grown hgr (by simp) fun k e => (HLT.out k e).1
  rw [List.nil_append] at hown
  have HOW := Lib.hid hown
  clear hgr hob hown hO hb1 hnil
  go_wp2_with fail
  go_ret
  exact ⟨A2, c2, by simp, by simpa using HOW.out, hB⟩
set_option maxRecDepth 100000 in
theorem cloneF_none (w : World) : Calls Tryd.prog 35 #[.slice none 0 0] w fun e w' => e = .returned (.slice none 0 0) ∧ w = w' := by
  have hnil : (binOp .eql 32 (.slice none 0 0) (.slice none 0 0)).run Tryd.prog w = .ok (.bool true) w := Lib.run_eql_slice_nil w 32 25 none 0 0 0 0 Tryd.underlying32
  go_enter Tryd.func35, Tryd.ntmps35
  go_wp2_with fail
  go_ret
  exact ⟨rfl, rfl⟩
/-- a row of the call's own is cloned -/
theorem cloneF_any (A : Option Addr) (n c base : Nat) (l : List Fw) (w : World) (hn : n ≤ 60) (hb : OwnE fwE 25 w base A n c l) : Calls Tryd.prog 35 #[.slice A n c] w fun e w' => ∃ A' c', e = .returned (.slice A' n c') ∧ OwnE fwE 25 w' w.heap.size A' n c' l ∧ Low w w' := by
  cases A with
  | none =>
    rcases hb.1.2 with ⟨e, rfl⟩ | ⟨g, cap, cur, e, -⟩
    · injection e with _ _ e3
      subst e3
      obtain rfl : l = [] := List.eq_nil_of_length_eq_zero hb.len
      refine (cloneF_none w).mono ?_
      rintro e w' ⟨rfl, rfl⟩
      exact ⟨none, 0, rfl, OwnE.none_ _ _ _ _, Below.refl _ _⟩
    · injection e with e
      cases e
  | some ad => exact cloneF_some ad n c l w hn (hb.lies (Nat.le_refl _))
end Go.Proofs.YtjafjapnmffohaaDoor
