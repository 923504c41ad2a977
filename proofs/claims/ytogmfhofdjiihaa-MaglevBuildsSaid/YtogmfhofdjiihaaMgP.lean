/- Stage 17: a closure is made for each member, by their nodes, and stands in the round as often as its weight says. Conditions: at most 40 members that are right; 2 to 1000 slots. -/
import Derived.Test.YtogmfhofdjiihaaMgN
import Derived.Test.YtogmfhofdjiihaaMgO
set_option maxRecDepth 100000
namespace Go.Proofs.Ytogmfhofdjiihaa
open Go.RowKit
set_option linter.unusedVariables false

set_option maxHeartbeats 1600000 in
theorem mgtaker_any (g M q : Nat) (t : List Int) (nd : Int) (O : List Int) (w : World) (hM : 0 < M) (hq : BlkN w 3 q O) (hqg : q ≠ g) (hg : g < w.heap.size) :
    Calls Try.prog 28 #[.slice (some ⟨g, 0, none⟩) M M, .int .i64 nd, .slice (some ⟨q, 0, none⟩) M M] w fun e w' => e = .returned (tkV w.heap.size) ∧ TurnI w' g M t w.heap.size nd O ∧ Low w w' ∧ w'.heap.size = w.heap.size + 3 := by
  have hl1 := Low.alloc w (.cells [Value.slice (some ⟨g, 0, none⟩) M M].toArray 27)
  have hl2 := hl1.trans (Low.alloc _ (.cells [Value.int .i64 nd].toArray 3))
  have hl3 := hl2.trans (Low.alloc _ (.cells [Value.slice (some ⟨q, 0, none⟩) M M].toArray 27))
  have b1 := ((BlkV.new w 27 [Value.slice (some ⟨g, 0, none⟩) M M]).alloc (.cells [Value.int .i64 nd].toArray 3)).alloc (.cells [Value.slice (some ⟨q, 0, none⟩) M M].toArray 27)
  have b2 := (BlkV.second (w := w) (vs := [Value.int .i64 nd]) (t := 3) (.cells [Value.slice (some ⟨g, 0, none⟩) M M].toArray 27)).alloc (.cells [Value.slice (some ⟨q, 0, none⟩) M M].toArray 27)
  have b3 := BlkV.new ((w.alloc (.cells [Value.slice (some ⟨g, 0, none⟩) M M].toArray 27)).alloc (.cells [Value.int .i64 nd].toArray 3)) 27 [Value.slice (some ⟨q, 0, none⟩) M M]
  have hs2 : ((w.alloc (.cells [Value.slice (some ⟨g, 0, none⟩) M M].toArray 27)).alloc (.cells [Value.int .i64 nd].toArray 3)).heap.size = w.heap.size + 2 := by simp
  rw [hs2] at b3
  have HT := Lib.hid (show TurnI (((w.alloc (.cells [Value.slice (some ⟨g, 0, none⟩) M M].toArray 27)).alloc (.cells [Value.int .i64 nd].toArray 3)).alloc (.cells [Value.slice (some ⟨q, 0, none⟩) M M].toArray 27)) g M t w.heap.size nd O from
    ⟨b1, b2, q, 0, some ⟨q, 0, none⟩, hqg, hq.below hl3 hq.lt, by omega, fun _ => rfl, b3, fun z hz => by omega⟩)
  have HL := Lib.hid hl3
  have HZ := Lib.hid (show (((w.alloc (.cells [Value.slice (some ⟨g, 0, none⟩) M M].toArray 27)).alloc (.cells [Value.int .i64 nd].toArray 3)).alloc (.cells [Value.slice (some ⟨q, 0, none⟩) M M].toArray 27)).heap.size = w.heap.size + 3 by simp)
  clear hl1 hl2 hl3 b1 b2 b3 hs2
  go_enter Try.func28, Try.ntmps28
  go_wp2_with fail
  go_ret
  exact ⟨rfl, HT.out, HL.out, HZ.out⟩

/-- what stands while the closures are made -/
structure RouI (a b : Int) (S : List Mbr) (g M n : Nat) (A2 : Option Addr) (B0 : Nat) (w wr : World) (t : List Int) (hs : List Nat) (m : Nat) : Prop where
  tab : BlkN wr 3 g t
  turn : ∀ k, k < m → TurnI wr g M t (hs.getD k 0) ((seqM S).getD k 0) (ordP a b ((seqM S).getD k 0) M)
  sp : ∀ i j, i < m → j < m → (hs.getD i 0 = hs.getD j 0 ∧ (seqM S).getD i 0 = (seqM S).getD j 0) ∨ hs.getD i 0 + 3 ≤ hs.getD j 0 ∨ hs.getD j 0 + 3 ≤ hs.getD i 0
  gt : ∀ k, k < m → g < hs.getD k 0 ∧ hs.getD k 0 + 3 ≤ wr.heap.size
  key : BlkV wr 24 w.heap.size (keyC a b)
  mem : Es mbrE wr B0 A2 n S
  low : Low w wr
  z : B0 ≤ wr.heap.size
  zb : w.heap.size ≤ B0
  len : hs.length = m
/-- .. of which the last one is x -/
structure LastI (a b : Int) (S : List Mbr) (g M : Nat) (wr : World) (t : List Int) (hs : List Nat) (m x : Nat) (nd : Int) : Prop where
  turn : TurnI wr g M t x nd (ordP a b nd M)
  gt : g < x ∧ x + 3 ≤ wr.heap.size
  sp : ∀ k, k < m → (hs.getD k 0 = x ∧ (seqM S).getD k 0 = nd) ∨ hs.getD k 0 + 3 ≤ x
section
variable {a b : Int} {S : List Mbr} {g M n m x : Nat} {A2 : Option Addr} {B0 : Nat} {w wr wr' : World} {t : List Int} {hs : List Nat} {nd : Int}
theorem RouI.below (h : RouI a b S g M n A2 B0 w wr t hs m) (hl : Low wr wr') : RouI a b S g M n A2 B0 w wr' t hs m :=
  ⟨h.tab.below hl h.tab.lt, fun k hk => (h.turn k hk).below (h.gt k hk).1 hl, h.sp, fun k hk => ⟨(h.gt k hk).1, Nat.le_trans (h.gt k hk).2 hl.size⟩, h.key.below hl h.key.lt, h.mem.below (hl.mono h.z), h.low.trans hl, Nat.le_trans h.z hl.size, h.zb, h.len⟩
theorem LastI.below (h : LastI a b S g M wr t hs m x nd) (hl : Low wr wr') : LastI a b S g M wr' t hs m x nd :=
  ⟨h.turn.below h.gt.1 hl, ⟨h.gt.1, Nat.le_trans h.gt.2 hl.size⟩, h.sp⟩
theorem type_apart1 : (3 : Nat) ≠ 26 := by decide +kernel
theorem type_apart2 : (27 : Nat) ≠ 26 := by decide +kernel
theorem type_apart3 : (24 : Nat) ≠ 26 := by decide +kernel
theorem own_row {w : World} {base n c : Nat} {A : Option Addr} {l : List Nat} (h : OwnE funE 26 w base A n c l) : ∀ r, (Value.slice A n c).ownBlock = some r → base ≤ r ∧ ∃ cs, w.heap[r]? = some (.cells cs 26 (0, 0)) := by
  intro r hr
  rcases h.1.2 with ⟨e, _⟩ | ⟨g, cap, cur, e, hb, hg, _⟩
  · rw [e] at hr
    cases hr
  · rw [e] at hr
    injection hr with hr
    subst hr
    exact ⟨hb, cur, hg⟩
/-- one more turn stands in the row -/
theorem RouI.more (h : RouI a b S g M n A2 B0 w wr t hs m) (hx : LastI a b S g M wr t hs m x nd) (hm : (seqM S).getD m 0 = nd) {row : Option Nat} (hgr : wr.grownBy wr' row)
    (hr : ∀ r, row = some r → B0 ≤ r ∧ ∃ cs, wr.heap[r]? = some (.cells cs 26 (0, 0))) : RouI a b S g M n A2 B0 w wr' t (hs ++ [x]) (m + 1) ∧ LastI a b S g M wr' t (hs ++ [x]) (m + 1) x nd := by
  have hk : ∀ (k : Nat) (cs : Array Value) (ty : TypeId), ty ≠ 26 → wr.heap[k]? = some (Obj.cells cs ty (0, 0)) → wr'.heap[k]? = some (Obj.cells cs ty (0, 0)) := fun k cs ty hty hc => by
    refine (hgr.block k (Array.getElem?_eq_some_iff.1 hc).1 fun e => ?_).trans hc
    obtain ⟨_, cs2, h2⟩ := hr k e.symm
    rw [hc] at h2
    injection h2 with h2
    injection h2 with _ h2 _
    exact hty h2
  have hkt : ∀ (k : Nat) (cs : Array Value) (ty : TypeId), k ≠ g → (ty = 3 ∨ ty = 27) → wr.heap[k]? = some (.cells cs ty (0, 0)) → wr'.heap[k]? = some (.cells cs ty (0, 0)) := fun k cs ty _ hty hc => by
    rcases hty with e | e
    · exact hk k cs ty (by rw [e]; exact type_apart1) hc
    · exact hk k cs ty (by rw [e]; exact type_apart2) hc
  have hold : ∀ k, k < m → (hs ++ [x]).getD k 0 = hs.getD k 0 := fun k hk => by
    have := h.len
    simp [List.getD, List.getElem?_append_left (show k < hs.length by omega)]
  have hnew : (hs ++ [x]).getD m 0 = x := by
    have := h.len
    simp [List.getD, ← this]
  have hT := hx.turn.keep (w' := wr') (t' := t) hx.gt.1 hkt fun _ h => h
  have hspx : ∀ k, k < m + 1 → ((hs ++ [x]).getD k 0 = x ∧ (seqM S).getD k 0 = nd) ∨ (hs ++ [x]).getD k 0 + 3 ≤ x := fun k hk => by
    by_cases e : k = m
    · subst e
      exact .inl ⟨hnew, hm⟩
    · rw [hold k (by omega)]
      exact hx.sp k (by omega)
  refine ⟨⟨hk _ _ _ type_apart1 h.tab, fun k hk2 => ?_, fun i j hi hj => ?_, fun k hk2 => ?_, hk _ _ _ type_apart3 h.key, h.mem.keep fun p hp => World.cell?_of_block (hgr.block p.block (by have := h.z; omega) fun e => by have := (hr _ e.symm).1; omega), h.low.grown hgr h.low.size (fun r e => by have := (hr r e).1; have := h.zb; omega), Nat.le_trans h.z hgr.size, h.zb, by simp [h.len]⟩, ⟨hT, ⟨hx.gt.1, Nat.le_trans hx.gt.2 hgr.size⟩, hspx⟩⟩
  · by_cases e : k = m
    · subst e
      rw [hnew, hm]
      exact hT
    · rw [hold k (by omega)]
      exact (h.turn k (by omega)).keep (h.gt k (by omega)).1 hkt fun _ h => h
  · by_cases ei : i = m
    · subst ei
      rw [hnew, hm]
      by_cases ej : j = i
      · subst ej
        exact .inl ⟨hnew.symm, hm.symm⟩
      · rcases hspx j hj with ⟨e1, e2⟩ | e1
        · exact .inl ⟨e1.symm, e2.symm⟩
        · exact .inr (.inr e1)
    · by_cases ej : j = m
      · subst ej
        rw [hnew, hm]
        rcases hspx i hi with ⟨e1, e2⟩ | e1
        · exact .inl ⟨e1, e2⟩
        · exact .inr (.inl e1)
      · rw [hold i (by omega), hold j (by omega)]
        exact h.sp i j (by omega) (by omega)
  · by_cases e : k = m
    · subst e
      rw [hnew]
      exact ⟨hx.gt.1, Nat.le_trans hx.gt.2 hgr.size⟩
    · rw [hold k (by omega)]
      exact ⟨(h.gt k (by omega)).1, Nat.le_trans (h.gt k (by omega)).2 hgr.size⟩
end
theorem info_funM : (Try.prog.info? 26).map (fun i => (i.zero, i.size, i.bytes)) = some (some .nilFunc, 1, 8) := by kernel_rfl
theorem info_fun_parts : ∃ i, Try.prog.info? 26 = some i ∧ i.zero = some .nilFunc ∧ i.size = 1 ∧ i.bytes = 8 := by
  have h := info_funM
  cases hi : Try.prog.info? 26 with
  | none => simp [hi] at h
  | some i =>
    simp [hi] at h
    exact ⟨i, rfl, h.1, h.2.1, h.2.2⟩
end Go.Proofs.Ytogmfhofdjiihaa
