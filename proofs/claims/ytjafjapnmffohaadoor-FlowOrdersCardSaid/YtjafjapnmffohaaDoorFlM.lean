/- Flows as the keys of a map; the flows of a list, each where it first stands. Conditions: addresses are 16 bytes, ports are ints. -/
import Derived.Test.YtjafjapnmffohaaDoorJFl
import Derived.Maps.OwnSet
import Derived.DeepKeys5
set_option maxRecDepth 100000
namespace Go.Proofs.YtjafjapnmffohaaDoor
open Go.RowKit Go.Maps
set_option linter.unusedVariables false

theorem laidOutF : laidOutB Tryd.prog = true := by kernel_rfl
theorem keyTypeF : Tryd.prog.keyType 25 = true := by kernel_rfl
theorem wideF : (match Tryd.prog.underlying 25 with | some (.array _ _) | some (.struct _) => true | _ => false) = true := by kernel_rfl
theorem deepF : WideMaps.KeyLaw Tryd.prog 25 := deep_law_gate laidOutF (by decide +kernel) (by decide +kernel) keyTypeF wideF
theorem keyedF : Keyed Tryd.prog 25 := Keyed.of_law deepF

theorem mapM_ex {α β : Type} {f : α → Option β} : ∀ L : List α, (∀ x ∈ L, ∃ y, f x = some y) → ∃ ys, L.mapM f = some ys
  | [], _ => ⟨[], rfl⟩
  | x :: L, h => by
    obtain ⟨y, hy⟩ := h x (by simp)
    obtain ⟨ys, hys⟩ := mapM_ex L fun z hz => h z (by simp [hz])
    exact ⟨y :: ys, by simp [List.mapM_cons, hy, hys]⟩
theorem klU (d : Nat) (x : Int) (h : 0 ≤ x ∧ x < 256) : ∃ l, Tryd.prog.keyLits (d + 1) 5 [.int .u8 x] = some l := by
  unfold Program.keyLits
  rw [Tryd.underlying5]
  have hw : (Lit.int .u8 x).wf = true := by
    simp [Lit.wf, IntKind.min, IntKind.max, IntKind.bits, IntKind.signed]
    omega
  exact ⟨_, by simp only [hw, and_self, if_true]; rfl⟩
theorem klI (d : Nat) (x : Int) (h : i64ok x) : ∃ l, Tryd.prog.keyLits (d + 1) 3 [.int .i64 x] = some l := by
  unfold Program.keyLits
  rw [Tryd.underlying3]
  have hw : (Lit.int .i64 x).wf = true := by
    unfold i64ok at h
    simp [Lit.wf, IntKind.min, IntKind.max, IntKind.bits, IntKind.signed]
    omega
  exact ⟨_, by simp only [hw, and_self, if_true]; rfl⟩
theorem klA (d : Nat) (s : List Int) (hs : s.length = 16) (vs : AllB s) : ∃ l, Tryd.prog.keyLits (d + 2) 23 (cellsB s) = some l := by
  have hc2 : Tryd.prog.cellsOf 23 = 16 := by kernel_rfl
  have hc1 : Tryd.prog.cellsOf 5 = 1 := by kernel_rfl
  obtain ⟨ys, hys⟩ := mapM_ex (f := fun i => Tryd.prog.keyLits (d + 1) 5 (((cellsB s).drop (i * 1)).take 1)) (List.range 16) fun i hi => by
    have hi' : i < 16 := by simpa using hi
    have e : ((cellsB s).drop (i * 1)).take 1 = [.int .u8 (s.getD i 0)] := by
      rw [Nat.mul_one]
      have hlt : i < (cellsB s).length := by rw [cellsB_length]; omega
      rw [List.drop_eq_getElem_cons hlt]
      have := cellsB_get (xs := s) (i := i) (by omega)
      rw [List.getElem?_eq_getElem hlt] at this
      simp [Option.some.inj this]
    rw [e]
    exact klU d _ (vs.getD i)
  unfold Program.keyLits
  rw [Tryd.underlying23]
  simp only [hc2, hc1, cellsB_length, hs, if_true]
  exact ⟨_, by rw [hys]; rfl⟩
theorem fwC_take (f : Fw) (hs : f.s.length = 16) : ((fwC f).drop 0).take 16 = cellsB f.s := by
  unfold fwC
  rw [List.drop_zero, List.take_append_of_le_length (by rw [cellsB_length]; omega), List.take_of_length_le (by rw [cellsB_length]; omega)]
theorem fwC_at16 (f : Fw) (hs : f.s.length = 16) : (fwC f).drop 16 = .int .i64 f.sp :: (cellsB f.d ++ [.int .i64 f.dp]) := by
  unfold fwC
  rw [List.drop_append, List.drop_eq_nil_of_le (by rw [cellsB_length]; omega), cellsB_length, hs]
  rfl
theorem fwC_at17 (f : Fw) (hs : f.s.length = 16) : (fwC f).drop 17 = cellsB f.d ++ [.int .i64 f.dp] := by
  have h := congrArg (List.drop 1) (fwC_at16 f hs)
  rw [List.drop_drop] at h
  exact h
theorem fwC_at33 (f : Fw) (hs : f.s.length = 16) (hd : f.d.length = 16) : (fwC f).drop 33 = [.int .i64 f.dp] := by
  have h := congrArg (List.drop 16) (fwC_at17 f hs)
  rw [List.drop_drop] at h
  have r : List.drop 16 (cellsB f.d ++ [Value.int .i64 f.dp]) = [.int .i64 f.dp] := by
    rw [List.drop_append, List.drop_eq_nil_of_le (by rw [cellsB_length]; omega), cellsB_length, hd]
    rfl
  exact h.trans r
theorem keyF_ex {f : Fw} (h : f.ok) : ∃ l, keyOf Tryd.prog 25 (fwV f) = some l := by
  have hc0 : Tryd.prog.cellsOf 25 = 34 := by kernel_rfl
  have hc2 : Tryd.prog.cellsOf 23 = 16 := by kernel_rfl
  have hc1 : Tryd.prog.cellsOf 3 = 1 := by kernel_rfl
  have hsz : Tryd.prog.types.size + 1 = (Tryd.prog.types.size - 2) + 3 := by
    have : decide (2 ≤ Tryd.prog.types.size) = true := by kernel_rfl
    have := of_decide_eq_true this
    omega
  have hfm : (fwV f).formed Tryd.prog 25 = true := by
    unfold fwV Value.formed
    rw [Tryd.underlying25]
    simp [hc0, fwC_length h.s h.d]
  obtain ⟨l0, e0⟩ := klA (Tryd.prog.types.size - 2) f.s h.s h.vs
  obtain ⟨l1, e1⟩ := klI (Tryd.prog.types.size - 2 + 1) f.sp h.sp
  obtain ⟨l2, e2⟩ := klA (Tryd.prog.types.size - 2) f.d h.d h.vd
  obtain ⟨l3, e3⟩ := klI (Tryd.prog.types.size - 2 + 1) f.dp h.dp
  have k : ∃ l, Tryd.prog.keyLits (Tryd.prog.types.size + 1) 25 (fwC f) = some l := by
    rw [hsz]
    unfold Program.keyLits
    rw [Tryd.underlying25]
    have t1 : ((fwC f).drop 16).take 1 = [.int .i64 f.sp] := by rw [fwC_at16 f h.s]; rfl
    have t2 : ((fwC f).drop 17).take 16 = cellsB f.d := by rw [fwC_at17 f h.s, List.take_append_of_le_length (by rw [cellsB_length, h.d]; omega), List.take_of_length_le (by rw [cellsB_length, h.d]; omega)]
    have t3 : ((fwC f).drop 33).take 1 = [.int .i64 f.dp] := by rw [fwC_at33 f h.s h.d]; rfl
    have t0 := fwC_take f h.s
    simp only [hc0, fwC_length h.s h.d, true_and]
    rw [if_pos (by decide +kernel)]
    simp only [List.mapM_cons, List.mapM_nil, hc1, hc2, t0, t1, t2, t3, e0, e1, e2, e3]
    exact ⟨_, rfl⟩
  obtain ⟨l, hl⟩ := k
  unfold keyOf
  rw [Tryd.underlying25]
  simp only [keyTypeF, hfm, Bool.and_self, if_true]
  have e : (fwV f).cells.toList = fwC f := by simp [fwV, Value.cells]
  rw [e, hl]
  exact ⟨_, rfl⟩

/-- what a flow reads as, as a key -/
def KeyF (kf : Fw → Lit) : Prop := ∀ f : Fw, f.ok → keyOf Tryd.prog 25 (fwV f) = some (kf f)
theorem keyF_get : ∃ kf, KeyF kf := ⟨fun f => (keyOf Tryd.prog 25 (fwV f)).getD (.bool false), fun f h => by
  obtain ⟨l, hl⟩ := keyF_ex h
  show _ = some ((keyOf Tryd.prog 25 (fwV f)).getD (.bool false))
  rw [hl]
  rfl⟩
theorem cellsB_inj {a b : List Int} (h : cellsB a = cellsB b) : a = b := by
  have hl : a.length = b.length := by rw [← cellsB_length a, h, cellsB_length]
  refine List.ext_getElem hl fun i h1 h2 => ?_
  have e1 := cellsB_get (xs := a) (i := i) h1
  have e2 := cellsB_get (xs := b) (i := i) h2
  rw [h, e2] at e1
  have := Option.some.inj e1
  injection this with _ e
  simp [List.getD, h1, h2] at e
  exact e.symm
theorem fwC_inj {a b : Fw} (ha : a.s.length = 16) (hb : b.s.length = 16) (h : fwC a = fwC b) : a = b := by
  unfold fwC at h
  obtain ⟨h1, h2⟩ := List.append_inj h (by rw [cellsB_length, cellsB_length, ha, hb])
  injection h2 with h2 h3
  injection h2 with _ h2
  have hl : (cellsB a.d).length = (cellsB b.d).length := by
    have := congrArg List.length h3
    simp at this
    exact this
  obtain ⟨h4, h5⟩ := List.append_inj h3 hl
  injection h5 with h5 _
  injection h5 with _ h5
  have e1 := cellsB_inj h1
  have e4 := cellsB_inj h4
  obtain ⟨a1, a2, a3, a4⟩ := a
  obtain ⟨b1, b2, b3, b4⟩ := b
  simp only at h2 h5 e1 e4
  subst h2 h5 e1 e4
  rfl
theorem keyF_inj {kf : Fw → Lit} (hk : KeyF kf) {a b : Fw} (ha : a.ok) (hb : b.ok) (h : kf a = kf b) : a = b := by
  have e := deepF.inj (hk a ha) (h ▸ hk b hb)
  unfold fwV at e
  injection e with e
  exact fwC_inj ha.s hb.s (by simpa using congrArg Array.toList e)
theorem keyF_lit {kf : Fw → Lit} (hk : KeyF kf) {a : Fw} (ha : a.ok) : WideAt.IsKeyLit (kf a) := by
  obtain ⟨s, e⟩ := deepF.str (hk a ha)
  rw [e]
  trivial
theorem keyF_same {kf : Fw → Lit} (hk : KeyF kf) {a b : Fw} (ha : a.ok) (hb : b.ok) : (kf a).sameKey (kf b) = eqFw a b := by
  by_cases h : a = b
  · subst h
    rw [eqFw_refl]
    exact WideAt.sameKey_self (keyF_lit hk ha)
  · have h2 : eqFw a b = false := by
      cases he : eqFw a b
      · rfl
      · exact absurd ((eqFw_iff a b).1 he) h
    rw [h2]
    cases hs : (kf a).sameKey (kf b)
    · rfl
    · exact absurd (keyF_inj hk ha hb (WideAt.sameKey_eq hs)) h

/-- each flow of a list, where it first stands -/
def addF (acc : List Fw) (x : Fw) : List Fw := if acc.any (fun y => eqFw y x) then acc else acc ++ [x]
def outF (l : List Fw) (k : Nat) : List Fw := (l.take k).foldl addF []
theorem outF_zero (l : List Fw) : outF l 0 = [] := by simp [outF]
theorem outF_succ (l : List Fw) (k : Nat) (hk : k < l.length) : outF l (k + 1) = addF (outF l k) (l.getD k zeroF) := by
  unfold outF
  rw [List.take_add_one, List.foldl_append]
  simp [List.getD, List.getElem?_eq_getElem hk]
theorem outF_old (l : List Fw) (k : Nat) (hk : k < l.length) (h : (outF l k).any (fun y => eqFw y (l.getD k zeroF)) = true) : outF l (k + 1) = outF l k := by
  rw [outF_succ l k hk, addF, if_pos h]
theorem outF_new (l : List Fw) (k : Nat) (hk : k < l.length) (h : (outF l k).any (fun y => eqFw y (l.getD k zeroF)) = false) : outF l (k + 1) = outF l k ++ [l.getD k zeroF] := by
  rw [outF_succ l k hk, addF, if_neg (by rw [h]; exact Bool.false_ne_true)]
theorem mem_outF (l : List Fw) : ∀ k, k ≤ l.length → ∀ x, x ∈ outF l k ↔ x ∈ l.take k
  | 0, _, x => by simp [outF]
  | k + 1, hk, x => by
    have ih := mem_outF l k (by omega)
    rw [outF_succ l k (by omega), List.take_add_one, List.mem_append, ← ih x]
    have e : x ∈ l[k]?.toList ↔ x = l.getD k zeroF := by
      rw [List.getElem?_eq_getElem (by omega)]
      simp [List.getD, List.getElem?_eq_getElem (show k < l.length by omega)]
    rw [e]
    unfold addF
    split
    · rename_i h
      obtain ⟨y, hy, he⟩ := List.any_eq_true.1 h
      have := (eqFw_iff _ _).1 he
      constructor
      · exact .inl
      · rintro (h | rfl)
        · exact h
        · exact this ▸ hy
    · simp
theorem outF_le (l : List Fw) : ∀ k, (outF l k).length ≤ k
  | 0 => by simp [outF]
  | k + 1 => by
    have ih := outF_le l k
    by_cases hk : k < l.length
    · rw [outF_succ l k hk]
      unfold addF
      split
      · omega
      · simp; omega
    · have : outF l (k + 1) = outF l k := by unfold outF; rw [List.take_of_length_le (by omega), List.take_of_length_le (by omega)]
      rw [this]
      omega
theorem outF_nodup (l : List Fw) : ∀ k, (outF l k).Pairwise (· ≠ ·)
  | 0 => by simp [outF]
  | k + 1 => by
    have ih := outF_nodup l k
    by_cases hk : k < l.length
    · rw [outF_succ l k hk]
      unfold addF
      split
      · exact ih
      · rename_i h
        rw [List.pairwise_append]
        refine ⟨ih, by simp, fun x hx y hy => ?_⟩
        obtain rfl : y = l.getD k zeroF := by simpa using hy
        intro e
        exact h (List.any_eq_true.2 ⟨x, hx, (eqFw_iff _ _).2 e⟩)
    · have : outF l (k + 1) = outF l k := by unfold outF; rw [List.take_of_length_le (by omega), List.take_of_length_le (by omega)]
      rw [this]
      exact ih
theorem outF_ok {l : List Fw} (h : ∀ x ∈ l, x.ok) (k : Nat) (hk : k ≤ l.length) : ∀ x ∈ outF l k, x.ok := fun x hx => h x (List.mem_of_mem_take ((mem_outF l k hk x).1 hx))
/-- .. and the set that holds just them -/
def setF {H : Type} (kf : Fw → Lit) (l : List Fw) (k : Nat) : DataW H := setOf (.agg []) ((outF l k).map kf)
theorem setF_zero {H : Type} (kf : Fw → Lit) (l : List Fw) : setF (H := H) kf l 0 = .map [] := by simp [setF, outF_zero, setOf]
theorem setF_old {H : Type} (kf : Fw → Lit) (l : List Fw) (k : Nat) (hk : k < l.length) (h : (outF l k).any (fun y => eqFw y (l.getD k zeroF)) = true) : setF (H := H) kf l (k + 1) = setF kf l k := by
  unfold setF
  rw [outF_old l k hk h]
theorem setF_new {H : Type} (kf : Fw → Lit) (l : List Fw) (k : Nat) (hk : k < l.length) (h : (outF l k).any (fun y => eqFw y (l.getD k zeroF)) = false) : setF (H := H) kf l (k + 1) = (setF kf l k).put (kf (l.getD k zeroF)) (.agg []) := by
  unfold setF
  rw [outF_new l k hk h, List.map_append, List.map_singleton, setOf_snoc]
theorem any_keyF {kf : Fw → Lit} (hk : KeyF kf) {x : Fw} (hx : x.ok) : ∀ l : List Fw, (∀ y ∈ l, y.ok) → l.any ((fun y : Lit => y.sameKey (kf x)) ∘ kf) = l.any (fun y => eqFw y x)
  | [], _ => rfl
  | a :: r, h => by
    rw [List.any_cons, List.any_cons, any_keyF hk hx r fun y hy => h y (by simp [hy])]
    congr 1
    exact keyF_same hk (h a (by simp)) hx
theorem has_setF {H : Type} {kf : Fw → Lit} (hkf : KeyF kf) (l : List Fw) (hl : ∀ x ∈ l, x.ok) (k : Nat) (hk : k ≤ l.length) (x : Fw) (hx : x.ok) : Maps.has (setF (H := H) kf l k) (kf x) = (outF l k).any (fun y => eqFw y x) := by
  unfold setF
  rw [has_setOf _ _ _ (fun y hy => by obtain ⟨z, hz, rfl⟩ := List.mem_map.1 hy; exact keyF_lit hkf (outF_ok hl k hk z hz)), List.any_map]
  exact any_keyF hkf hx _ (outF_ok hl k hk)
end Go.Proofs.YtjafjapnmffohaaDoor
