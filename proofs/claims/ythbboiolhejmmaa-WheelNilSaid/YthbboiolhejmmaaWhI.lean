/- Stage 23: the program's own wheel: how it lies; made, When, Now, Len. No condition but that it lies so. -/
import Derived.Test.YthbboiolhejmmaaWhD
import Derived.Test.YthbboiolhejmmaaWhH
import Derived.Test.YthbboiolhejmmaaMid
import Derived.Test.YthbboiolhejmmaaJReg
import Derived.Tactics2
import Derived.BigQuiet
import Derived.Laws.Pointers
import Derived.WalkLawsBesides
set_option maxRecDepth 100000
namespace Go.Proofs.Ythbboiolhejmmaa
open Go.RowKit Go.Maps
set_option linter.unusedVariables false
attribute [local go_sem] Oper.semAt_some

/-- a slice as it lies in a cell -/
abbrev SlcW := Option Addr × Nat × Nat
def noW : SlcW := (none, 0, 0)
def slvW (s : SlcW) : Value := .slice s.1 s.2.1 s.2.2
/-- the cells of a wheel -/
def headW (now : Int) (b : Nat) (sl : List SlcW) : List Value := .int .i64 now :: .map (some b) :: sl.map slvW
theorem headW_get {now : Int} {b : Nat} {sl : List SlcW} {i : Nat} (hi : i < sl.length) : (headW now b sl)[2 + i]? = some (slvW (sl.getD i noW)) := by
  unfold headW
  rw [show 2 + i = i + 1 + 1 by omega, List.getElem?_cons_succ, List.getElem?_cons_succ, List.getElem?_map, List.getElem?_eq_getElem hi]
  simp [List.getD, hi]
theorem headW_set (now : Int) (b : Nat) (sl : List SlcW) (i : Nat) (s : SlcW) : (headW now b sl).set (2 + i) (slvW s) = headW now b (sl.set i s) := by
  unfold headW
  rw [show 2 + i = i + 1 + 1 by omega, List.set_cons_succ, List.set_cons_succ, List.map_set]
theorem headW_now (now now' : Int) (b : Nat) (sl : List SlcW) : (headW now b sl).set 0 (.int .i64 now') = headW now' b sl := rfl
theorem headW_len (now : Int) (b : Nat) (sl : List SlcW) : (headW now b sl).length = sl.length + 2 := by simp [headW]
theorem getD_setV {sl : List SlcW} {i j : Nat} {s : SlcW} (hi : i < sl.length) : (sl.set i s).getD j noW = if j = i then s else sl.getD j noW := by
  by_cases e : j = i
  · rw [if_pos e, e]
    simp [List.getD, hi]
  · rw [if_neg e]
    simp [List.getD, Ne.symm e]
/-- the map of ticks in memory -/
def DueW (w : World) (b : Nat) (l : List (Int × Int)) : Prop := ∃ D : DataW Unit, w.ownsMap Try.prog 3 (plainElem Try.prog 3) b l.length D ∧ MapW D l
theorem DueW.heap {w w' : World} {b : Nat} {l : List (Int × Int)} (h : DueW w b l) (e : w'.heap[b]? = w.heap[b]?) : DueW w' b l := by
  obtain ⟨D, h1, h2⟩ := h
  exact ⟨D, heapP h1 e, h2⟩
theorem DueW.lt {w : World} {b : Nat} {l : List (Int × Int)} (h : DueW w b l) : b < w.heap.size := by
  obtain ⟨D, h1, h2⟩ := h
  exact h1.lt
theorem trimW {w : World} {b n : Nat} {D : DataW Unit} {l : List (Int × Int)} (h : w.ownsMap Try.prog 3 (plainElem Try.prog 3) b n D) (hm : MapW D l) : DueW w b l := by
  have hz := hm.size
  obtain ⟨es, clock, hb, F, hs, hD⟩ := h
  refine ⟨D, ⟨es, clock, hb, F, ?_, hD⟩, hm⟩
  rw [hD] at hz
  rw [← hz]
  simp [Maps.size, length_sorted]
theorem BlkV.noMap {w : World} {t : TypeId} {b : Nat} {vs : List Value} {l : List (Int × Int)} (h : BlkV w t b vs) (hd : DueW w b l) : False := by
  obtain ⟨D, ⟨es, clock, hb, _⟩, _⟩ := hd
  unfold BlkV at h
  rw [h] at hb
  injection hb with hb
  cases hb
theorem OwnN.sameW {t : TypeId} {w w' : World} {base n c : Nat} {A : Option Addr} {ys : List Int} (h : OwnN t w base A n c ys) (hk : ∀ k, (Value.slice A n c).ownBlock = some k → w'.heap[k]? = w.heap[k]?) : OwnN t w' base A n c ys := by
  refine ⟨⟨h.1.1, ?_⟩, h.2⟩
  rcases h.1.2 with e | ⟨g, cap, cur, e, hbg, hg, r⟩
  · exact .inl e
  · exact .inr ⟨g, cap, cur, e, hbg, (hk g (by rw [e]; rfl)).trans hg, r⟩
theorem OwnN.typeW {t : TypeId} {w : World} {base n c : Nat} {A : Option Addr} {ys : List Int} (h : OwnN t w base A n c ys) {k : Nat} (e : (Value.slice A n c).ownBlock = some k) : ∃ cur, w.heap[k]? = some (.cells cur t (0, 0)) := by
  rcases h.1.2 with ⟨e1, _⟩ | ⟨g, cap, cur, e1, hbg, hg, r⟩
  · rw [e1] at e
    cases e
  · rw [e1] at e
    injection e with e
    exact ⟨cur, by rw [← e]; exact hg⟩
/-- a wheel in memory: its head at g, its map at b, its lists in blocks of their own -/
structure WhAt (w : World) (g b : Nat) (now : Int) (sl : List SlcW) (xs : List (List Int)) (l : List (Int × Int)) : Prop where
  head : BlkV w 48 g (headW now b sl)
  due : DueW w b l
  len : sl.length = 64
  row : ∀ i, i < 64 → OwnN 3 w 0 (sl.getD i noW).1 (sl.getD i noW).2.1 (sl.getD i noW).2.2 (xs.getD i [])
  apart : ∀ i j k, i < 64 → j < 64 → (slvW (sl.getD i noW)).ownBlock = some k → (slvW (sl.getD j noW)).ownBlock = some k → i = j
  tell : TellW xs l
  kept : KeepW l
/-- its blocks -/
def ownW (g b : Nat) (sl : List SlcW) (k : Nat) : Prop := k = g ∨ k = b ∨ ∃ i, i < 64 ∧ (slvW (sl.getD i noW)).ownBlock = some k
section
variable {w w' : World} {g b : Nat} {now : Int} {sl : List SlcW} {xs : List (List Int)} {l : List (Int × Int)}
theorem WhAt.keep (h : WhAt w g b now sl xs l) (hk : ∀ k, ownW g b sl k → w'.heap[k]? = w.heap[k]?) : WhAt w' g b now sl xs l :=
  ⟨h.head.same (hk g (.inl rfl)), h.due.heap (hk b (.inr (.inl rfl))), h.len, fun i hi => (h.row i hi).sameW fun k e => hk k (.inr (.inr ⟨i, hi, e⟩)), h.apart, h.tell, h.kept⟩
theorem WhAt.under (h : WhAt w g b now sl xs l) : Under (ownW g b sl) w := fun k hk => by
  rcases hk with rfl | rfl | ⟨i, hi, e⟩
  · exact h.head.lt
  · exact h.due.lt
  · exact ((h.row i hi).lt k e).2
theorem WhAt.low (h : WhAt w g b now sl xs l) (hl : Low w w') : WhAt w' g b now sl xs l := h.keep fun k hk => hl.block k (h.under k hk)
theorem WhAt.gb (h : WhAt w g b now sl xs l) : g ≠ b := fun e => (e ▸ h.head).noMap h.due
theorem WhAt.rg (h : WhAt w g b now sl xs l) {i k : Nat} (hi : i < 64) (e : (slvW (sl.getD i noW)).ownBlock = some k) : k ≠ g := fun e2 => by
  obtain ⟨cur, hc⟩ := (h.row i hi).typeW e
  have hh := h.head
  unfold BlkV at hh
  rw [← e2, hc] at hh
  injection hh with hh
  injection hh with _ hh _
  exact absurd hh (by decide +kernel)
theorem WhAt.rb (h : WhAt w g b now sl xs l) {i k : Nat} (hi : i < 64) (e : (slvW (sl.getD i noW)).ownBlock = some k) : k ≠ b := fun e2 => by
  obtain ⟨cur, hc⟩ := (h.row i hi).typeW e
  obtain ⟨D, ⟨es, clock, hb, _⟩, _⟩ := h.due
  rw [← e2, hc] at hb
  injection hb with hb
  cases hb
theorem WhAt.c0 (h : WhAt w g b now sl xs l) : w.cell? ⟨g, 0, none⟩ = some (.int .i64 now) := h.head.cell 0
theorem WhAt.c1 (h : WhAt w g b now sl xs l) : w.cell? ⟨g, 1, none⟩ = some (.map (some b)) := h.head.cell 1
theorem WhAt.cs (h : WhAt w g b now sl xs l) {i : Nat} (hi : i < 64) : w.cell? ⟨g, 2 + i, none⟩ = some (.slice (sl.getD i noW).1 (sl.getD i noW).2.1 (sl.getD i noW).2.2) := (h.head.cell (2 + i)).trans (headW_get (by rw [h.len]; exact hi))

theorem map_some (b : Nat) (w : World) : (binOp .neq 45 (.map (some b)) (.map none)).run Try.prog w = .ok (.bool true) w := by kernel_rfl
theorem whmade_any (c1 : w.cell? ⟨g, 1, none⟩ = some (.map (some b))) : Calls Try.prog 18 #[.pointer (some ⟨g, 0, none⟩)] w fun e w' => e = .returned (.bool true) ∧ w' = w := by
  have hne := map_some b w
  go_enter Try.func18, Try.ntmps18
  go_wp2_with fail
  go_ret
  exact ⟨rfl, rfl⟩
theorem whnow_any (h : WhAt w g b now sl xs l) : Calls Try.prog 15 #[.pointer (some ⟨g, 0, none⟩)] w fun e w' => e = .returned (.int .i64 now) ∧ w' = w := by
  have HM := Lib.hid (whmade_any h.c1)
  have c0 := h.c0
  clear h
  go_enter Try.func15, Try.ntmps15
  go_wp2_with fail
  refine HM.out.mono ?_
  rintro e w2 ⟨rfl, rfl⟩
  go_wp2_with fail
  go_ret
  exact ⟨rfl, rfl⟩
theorem whlen_any (h : WhAt w g b now sl xs l) : Calls Try.prog 16 #[.pointer (some ⟨g, 0, none⟩)] w fun e w' => e = .returned (.int .i64 (l.length : Nat)) ∧ w' = w := by
  have HM := Lib.hid (whmade_any h.c1)
  have c1 := h.c1
  obtain ⟨D, hD, hm⟩ := h.due
  have HD := Lib.hid hD
  have HZ := Lib.hid hm.size
  clear h hD hm
  go_enter Try.func16, Try.ntmps16
  go_wp2_with fail
  refine HM.out.mono ?_
  rintro e w2 ⟨rfl, rfl⟩
  go_wp2_with (at_len; refine wpList_len_own w2 rfl _ 45 rfl 3 3 Try.underlying45 (plainElem Try.prog 3) b l.length D rfl HD.out ?_; rw [HZ.out])
  go_ret
  exact ⟨rfl, rfl⟩
theorem whwhen_any (h : WhAt w g b now sl xs l) (id : Int) (hid : i64ok id) : Calls Try.prog 7 #[.pointer (some ⟨g, 0, none⟩), .int .i64 id] w fun e w' => e = .returned (.tuple #[.int .i64 (whenW l id), .bool (hasS l id)]) ∧ w' = w := by
  have HM := Lib.hid (whmade_any h.c1)
  have c1 := h.c1
  obtain ⟨D, hD, hm⟩ := h.due
  have HD := Lib.hid hD
  have HH := Lib.hid (hm.has id)
  have HA := Lib.hid (hm.at_ id)
  have HK := Lib.hid (keyP id hid)
  clear h hD hm
  go_enter Try.func7, Try.ntmps7
  go_wp2_with fail
  refine HM.out.mono ?_
  rintro e w2 ⟨rfl, rfl⟩
  go_wp2_with (at_lookup; refine wpList_lookup_own_ok_int w2 rfl _ _ 45 rfl 3 3 .i64 keyedP Try.underlying45 Try.underlying3 (Try.zeroValue3 _) b l.length D rfl HD.out _ _ rfl HK.out ?_; intro c hc _; rw [HA.out] at hc; injection hc with hc; injection hc with _ hc; subst hc; rw [HH.out])
  go_ret2
  exact ⟨rfl, rfl⟩
end
end Go.Proofs.Ythbboiolhejmmaa
