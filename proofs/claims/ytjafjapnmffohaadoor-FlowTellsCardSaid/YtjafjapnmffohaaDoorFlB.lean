/- The page's words on flows: their bytes, which of two comes first, flows in order; the order is total; lists in order are one. No program here. -/
import Derived.Test.YtjafjapnmffohaaDoorJAd
import Derived.Test.YtjafjapnmffohaaDoorJOct
set_option maxRecDepth 100000
namespace Go.Proofs.YtjafjapnmffohaaDoor
open Go.RowKit
set_option linter.unusedVariables false

/-- a flow -/
structure Fw where
  s : List Int
  sp : Int
  d : List Int
  dp : Int
structure Fw.ok (f : Fw) : Prop where
  s : f.s.length = 16
  d : f.d.length = 16
  vs : AllB f.s
  vd : AllB f.d
  sp : i64ok f.sp
  dp : i64ok f.dp
def zeroF : Fw := ⟨zero16, 0, zero16, 0⟩
theorem zeroF_ok : zeroF.ok := ⟨rfl, rfl, zero_all, zero_all, by unfold i64ok; decide, by unfold i64ok; decide⟩
def backF (f : Fw) : Fw := ⟨f.d, f.dp, f.s, f.sp⟩
theorem backF_ok {f : Fw} (h : f.ok) : (backF f).ok := ⟨h.d, h.s, h.vd, h.vs, h.dp, h.sp⟩
def rightF (f : Fw) : Bool := decide (0 ≤ f.sp ∧ f.sp ≤ 65535 ∧ 0 ≤ f.dp ∧ f.dp ≤ 65535)
def bytesF (f : Fw) : List Int := f.s ++ two f.sp ++ f.d ++ two f.dp
theorem bytesF_len {f : Fw} (h : f.ok) : (bytesF f).length = 36 := by
  unfold bytesF two
  simp [h.s, h.d]
theorem bytesF_all {f : Fw} (h : f.ok) : AllB (bytesF f) := ((h.vs.append (two_all _)).append h.vd).append (two_all _)
/-- flows that may be have other bytes, if they are others -/
theorem two_one {x y : Int} (hx : 0 ≤ x ∧ x ≤ 65535) (hy : 0 ≤ y ∧ y ≤ 65535) (h : two x = two y) : x = y := by
  unfold two at h
  simp only [List.cons.injEq, and_true] at h
  omega
theorem bytesF_one {f g : Fw} (hf : f.ok) (hg : g.ok) (rf : rightF f = true) (rg : rightF g = true) (h : bytesF f = bytesF g) : f = g := by
  obtain ⟨a1, a2, a3, a4⟩ := of_decide_eq_true rf
  obtain ⟨b1, b2, b3, b4⟩ := of_decide_eq_true rg
  unfold bytesF at h
  simp only [List.append_assoc] at h
  obtain ⟨h1, h⟩ := List.append_inj h (by rw [hf.s, hg.s])
  obtain ⟨h2, h⟩ := List.append_inj h rfl
  obtain ⟨h3, h4⟩ := List.append_inj h (by rw [hf.d, hg.d])
  have e2 := two_one ⟨a1, a2⟩ ⟨b1, b2⟩ h2
  have e4 := two_one ⟨a3, a4⟩ ⟨b3, b4⟩ h4
  obtain ⟨fs, fp, fd, fq⟩ := f
  obtain ⟨gs, gp, gd, gq⟩ := g
  simp only at h1 h3 e2 e4
  subst h1 h3 e2 e4
  rfl

/-- the order of addresses is total -/
theorem lessL_irr : ∀ l : List Int, lessL l l = false
  | [] => rfl
  | x :: l => by rw [lessL, if_pos rfl, lessL_irr l]
theorem lessL_tri : ∀ {a b : List Int}, a.length = b.length → a ≠ b → (lessL a b = true ∧ lessL b a = false) ∨ (lessL a b = false ∧ lessL b a = true)
  | [], [], _, h => absurd rfl h
  | [], _ :: _, h, _ => by simp at h
  | _ :: _, [], h, _ => by simp at h
  | x :: a, y :: b, hl, h => by
    by_cases e : x = y
    · subst e
      rw [lessL, lessL, if_pos rfl, if_pos rfl]
      exact lessL_tri (by simpa using hl) fun e => h (by rw [e])
    · rw [lessL, lessL, if_neg e, if_neg (fun e' => e e'.symm)]
      by_cases hlt : x < y
      · exact .inl ⟨decide_eq_true hlt, decide_eq_false (by omega)⟩
      · exact .inr ⟨decide_eq_false hlt, decide_eq_true (by omega)⟩
theorem lessL_trans : ∀ {a b c : List Int}, lessL a b = true → lessL b c = true → lessL a c = true
  | [], b, c, h, _ => by cases b <;> simp [lessL] at h
  | _ :: _, [], c, h, _ => by simp [lessL] at h
  | _ :: _, _ :: _, [], _, h => by simp [lessL] at h
  | x :: a, y :: b, z :: c, h, k => by
    rw [lessL] at h k ⊢
    by_cases e : x = y
    · subst e
      rw [if_pos rfl] at h
      by_cases e2 : x = z
      · subst e2
        rw [if_pos rfl] at k ⊢
        exact lessL_trans h k
      · rw [if_neg e2] at k ⊢
        exact k
    · rw [if_neg e] at h
      have h1 := of_decide_eq_true h
      by_cases e2 : y = z
      · subst e2
        rw [if_neg e]
        exact h
      · rw [if_neg e2] at k
        have h2 := of_decide_eq_true k
        rw [if_neg (by omega)]
        exact decide_eq_true (by omega)

/-- does one come ahead of another? -/
def lessF (a b : Fw) : Bool :=
  if a.s = b.s then (if a.sp = b.sp then (if a.d = b.d then decide (a.dp < b.dp) else lessL a.d b.d) else decide (a.sp < b.sp)) else lessL a.s b.s
theorem lessF_irr (a : Fw) : lessF a a = false := by
  unfold lessF
  rw [if_pos rfl, if_pos rfl, if_pos rfl]
  exact decide_eq_false (by omega)
theorem lessF_tri {a b : Fw} (ha : a.ok) (hb : b.ok) (h : a ≠ b) : (lessF a b = true ∧ lessF b a = false) ∨ (lessF a b = false ∧ lessF b a = true) := by
  unfold lessF
  by_cases e1 : a.s = b.s
  · rw [if_pos e1, if_pos e1.symm]
    by_cases e2 : a.sp = b.sp
    · rw [if_pos e2, if_pos e2.symm]
      by_cases e3 : a.d = b.d
      · rw [if_pos e3, if_pos e3.symm]
        have e4 : a.dp ≠ b.dp := fun e4 => h (by
          obtain ⟨x1, x2, x3, x4⟩ := a
          obtain ⟨y1, y2, y3, y4⟩ := b
          simp only at e1 e2 e3 e4
          subst e1 e2 e3 e4
          rfl)
        by_cases hlt : a.dp < b.dp
        · exact .inl ⟨decide_eq_true hlt, decide_eq_false (by omega)⟩
        · exact .inr ⟨decide_eq_false hlt, decide_eq_true (by omega)⟩
      · rw [if_neg e3, if_neg (fun e => e3 e.symm)]
        exact lessL_tri (by rw [ha.d, hb.d]) e3
    · rw [if_neg e2, if_neg (fun e => e2 e.symm)]
      by_cases hlt : a.sp < b.sp
      · exact .inl ⟨decide_eq_true hlt, decide_eq_false (by omega)⟩
      · exact .inr ⟨decide_eq_false hlt, decide_eq_true (by omega)⟩
  · rw [if_neg e1, if_neg (fun e => e1 e.symm)]
    exact lessL_tri (by rw [ha.s, hb.s]) e1
theorem lessF_trans {a b c : Fw} (h : lessF a b = true) (k : lessF b c = true) : lessF a c = true := by
  unfold lessF at h k ⊢
  by_cases e1 : a.s = b.s
  · rw [if_pos e1] at h
    by_cases f1 : b.s = c.s
    · rw [if_pos f1] at k
      rw [if_pos (e1.trans f1)]
      by_cases e2 : a.sp = b.sp
      · rw [if_pos e2] at h
        by_cases f2 : b.sp = c.sp
        · rw [if_pos f2] at k
          rw [if_pos (e2.trans f2)]
          by_cases e3 : a.d = b.d
          · rw [if_pos e3] at h
            by_cases f3 : b.d = c.d
            · rw [if_pos f3] at k
              rw [if_pos (e3.trans f3)]
              have h1 := of_decide_eq_true h
              have h2 := of_decide_eq_true k
              exact decide_eq_true (by omega)
            · rw [if_neg f3] at k
              rw [if_neg (by rw [e3]; exact f3), e3]
              exact k
          · rw [if_neg e3] at h
            by_cases f3 : b.d = c.d
            · rw [← f3, if_neg e3]
              exact h
            · rw [if_neg f3] at k
              have ht := lessL_trans h k
              rw [if_neg (fun e => by rw [e, lessL_irr] at ht; exact absurd ht (by decide))]
              exact ht
        · rw [if_neg f2] at k
          rw [if_neg (by omega), e2]
          exact k
      · rw [if_neg e2] at h
        have h1 := of_decide_eq_true h
        by_cases f2 : b.sp = c.sp
        · rw [if_neg (by omega)]
          exact decide_eq_true (by omega)
        · rw [if_neg f2] at k
          have h2 := of_decide_eq_true k
          rw [if_neg (by omega)]
          exact decide_eq_true (by omega)
    · rw [if_neg f1] at k
      rw [if_neg (by rw [e1]; exact f1), e1]
      exact k
  · rw [if_neg e1] at h
    by_cases f1 : b.s = c.s
    · rw [← f1, if_neg e1]
      exact h
    · rw [if_neg f1] at k
      have ht := lessL_trans h k
      rw [if_neg (fun e => by rw [e, lessL_irr] at ht; exact absurd ht (by decide))]
      exact ht

/-- flows in order, each once -/
def Ordered (l : List Fw) : Prop := l.Pairwise fun a b => lessF a b = true
def SortsF (l out : List Fw) : Prop := (∀ x, x ∈ out ↔ x ∈ l) ∧ Ordered out
theorem Ordered.one : ∀ {a b : List Fw}, Ordered a → Ordered b → (∀ x, x ∈ a ↔ x ∈ b) → a = b
  | [], [], _, _, _ => rfl
  | [], y :: b, _, _, h => absurd ((h y).2 List.mem_cons_self) (by simp)
  | x :: a, [], _, _, h => absurd ((h x).1 List.mem_cons_self) (by simp)
  | x :: a, y :: b, ha, hb, h => by
    obtain ⟨ha1, ha2⟩ := List.pairwise_cons.1 ha
    obtain ⟨hb1, hb2⟩ := List.pairwise_cons.1 hb
    have hxy : x = y := by
      rcases List.mem_cons.1 ((h x).1 List.mem_cons_self) with e | hx
      · exact e
      · rcases List.mem_cons.1 ((h y).2 List.mem_cons_self) with e | hy
        · exact e.symm
        · have t := lessF_trans (hb1 x hx) (ha1 y hy)
          rw [lessF_irr] at t
          exact absurd t (by decide)
    subst hxy
    have hs : ∀ z, z ∈ a ↔ z ∈ b := fun z => by
      constructor
      · intro hz
        rcases List.mem_cons.1 ((h z).1 (List.mem_cons_of_mem _ hz)) with e | hz2
        · subst e
          have t := ha1 z hz
          rw [lessF_irr] at t
          exact absurd t (by decide)
        · exact hz2
      · intro hz
        rcases List.mem_cons.1 ((h z).2 (List.mem_cons_of_mem _ hz)) with e | hz2
        · subst e
          have t := hb1 z hz
          rw [lessF_irr] at t
          exact absurd t (by decide)
        · exact hz2
    rw [Ordered.one ha2 hb2 hs]
theorem SortsF.one {l a b : List Fw} (ha : SortsF l a) (hb : SortsF l b) : a = b := Ordered.one ha.2 hb.2 fun x => (ha.1 x).trans (hb.1 x).symm
end Go.Proofs.YtjafjapnmffohaaDoor
