/- Stage 21: cells with keys: how a key is found, put, and how the keys behind a gap go back. No program here; no condition. -/
import Derived.Test.YtipggnjjmpacmaaSlA
set_option maxRecDepth 100000
namespace Go.Proofs.Ytipggnjjmpacmaa
set_option linter.unusedVariables false

theorem farS_uniq {n h j : Nat} (hh : h < n) (hj : j < n) : farS n h ((h + j) % n) = j := by
  unfold farS
  by_cases c : h + j < n
  · rw [Nat.mod_eq_of_lt c, show h + j + n - h = j + n by omega, Nat.add_mod_right, Nat.mod_eq_of_lt hj]
  · rw [Nat.mod_eq_sub_mod (show n ≤ h + j by omega), Nat.mod_eq_of_lt (show h + j - n < n by omega), show h + j - n + n - h = j by omega, Nat.mod_eq_of_lt hj]
theorem mod_addS (g d j n : Nat) : ((g + j) % n + d) % n = (g + (j + d)) % n := by rw [Nat.mod_add_mod, Nat.add_assoc]
theorem farS_self {n g : Nat} (h : g < n) : farS n g g = 0 := by
  unfold farS
  rw [show g + n - g = n by omega, Nat.mod_self]
theorem farS_pos {n g i : Nat} (hg : g < n) (hi : i < n) (h : i ≠ g) : 1 ≤ farS n g i := by
  have e := farS_at hg hi
  rcases Nat.eq_zero_or_pos (farS n g i) with h0 | h0
  · rw [h0, Nat.add_zero, Nat.mod_eq_of_lt hg] at e
    exact absurd e.symm h
  · exact h0
theorem getS_lt {cs : List (Option (Int × Int))} {i : Nat} {x : Option (Int × Int)} (h : cs[i]? = some x) : i < cs.length := (List.getElem?_eq_some_iff.1 h).1
theorem getS_some {cs : List (Option (Int × Int))} {i : Nat} (h : i < cs.length) : cs[i]? = some none ∨ ∃ p, cs[i]? = some (some p) := by
  rw [List.getElem?_eq_getElem h]
  cases cs[i] with
  | none => exact .inl rfl
  | some p => exact .inr ⟨p, rfl⟩
/-- a pair taken out of its cell -/
theorem pairsS_out : ∀ {cs : List (Option (Int × Int))} {i : Nat} {p : Int × Int}, cs[i]? = some (some p) → (pairsS cs).Perm (p :: pairsS (cs.set i none))
  | [], i, p, h => by simp at h
  | c :: r, 0, p, h => by
    have e : c = some p := by simpa using h
    subst e
    exact List.Perm.refl _
  | c :: r, i + 1, p, h => by
    have ih := pairsS_out (cs := r) (i := i) (p := p) (by simpa using h)
    cases c with
    | none => exact ih
    | some q => exact (ih.cons q).trans (List.Perm.swap _ _ _)
theorem pairsS_put {cs : List (Option (Int × Int))} {i : Nat} (p : Int × Int) (h : cs[i]? = some none) : (pairsS (cs.set i (some p))).Perm (p :: pairsS cs) := by
  have hl := getS_lt h
  have h1 : (cs.set i (some p))[i]? = some (some p) := by simp [hl]
  have h2 := pairsS_out h1
  rw [List.set_set] at h2
  have e : cs.set i none = cs := by
    apply List.ext_getElem?
    intro j
    by_cases hj : i = j
    · subst hj
      rw [h]
      simp [hl]
    · simp [hj]
  rwa [e] at h2
theorem pairsS_change {cs : List (Option (Int × Int))} {i : Nat} {p : Int × Int} (q : Int × Int) (h : cs[i]? = some (some p)) : (pairsS (cs.set i (some q))).Perm (q :: pairsS (cs.set i none)) := by
  have hl := getS_lt h
  have h1 : (cs.set i (some q))[i]? = some (some q) := by simp [hl]
  have h2 := pairsS_out h1
  rwa [List.set_set] at h2
theorem pairsS_full : ∀ {cs : List (Option (Int × Int))}, (∀ i, i < cs.length → ∃ q, cs[i]? = some (some q)) → (pairsS cs).length = cs.length
  | [], _ => rfl
  | c :: r, h => by
    obtain ⟨q, hq⟩ := h 0 (by simp)
    have e : c = some q := by simpa using hq
    subst e
    have ih := pairsS_full (cs := r) fun i hi => by simpa using h (i + 1) (by simpa using hi)
    show (q :: pairsS r).length = _
    simp [ih]
theorem pairsS_room {cs : List (Option (Int × Int))} {i : Nat} (h : cs[i]? = some none) : (pairsS cs).length < cs.length := by
  have h1 := (pairsS_put (0, 0) h).length_eq
  have h2 := pairsS_len (cs.set i (some (0, 0)))
  rw [List.length_set] at h2
  simp only [List.length_cons] at h1
  omega

/-- where a key's way has come to, having met others alone -/
def WayS (n : Nat) (home : Int → Nat) (cs : List (Option (Int × Int))) (k : Int) (j : Nat) : Prop := ∀ e, e < j → ∃ q : Int × Int, cs[(home k + e) % n]? = some (some q) ∧ q.1 ≠ k
section
variable {n : Nat} {home : Int → Nat} {cs : List (Option (Int × Int))} {k : Int} {j : Nat}
theorem WayS.zero : WayS n home cs k 0 := fun e h => absurd h (by omega)
theorem WayS.succ (h : WayS n home cs k j) {q : Int × Int} (hq : cs[(home k + j) % n]? = some (some q)) (hk : q.1 ≠ k) : WayS n home cs k (j + 1) := fun e he => by
  rcases Nat.lt_or_ge e j with h1 | h1
  · exact h e h1
  · obtain rfl : e = j := by omega
    exact ⟨q, hq, hk⟩
theorem StS.hasAt (h : StS n home cs) {i : Nat} {v : Int} (hi : cs[i]? = some (some (k, v))) : hasS (pairsS cs) k = true := hasS_iff.2 ⟨v, pairsS_mem.2 ⟨i, hi⟩⟩
theorem StS.notFree (h : StS n home cs) (hh : home k < n) (hw : WayS n home cs k j) (hj : j < n) (hf : cs[(home k + j) % n]? = some none) : hasS (pairsS cs) k = false := by
  cases hc : hasS (pairsS cs) k
  · rfl
  · obtain ⟨v, hv⟩ := hasS_iff.1 hc
    obtain ⟨i, hi⟩ := pairsS_mem.1 hv
    have hin : i < n := by have := getS_lt hi; rwa [h.len] at this
    have e := farS_at hh hin
    rcases Nat.lt_trichotomy (farS n (home k) i) j with h1 | h1 | h1
    · obtain ⟨q, hq, hk⟩ := hw _ h1
      rw [e, hi] at hq
      injection hq with hq
      injection hq with hq
      rw [← hq] at hk
      exact absurd rfl hk
    · rw [← h1, e, hi] at hf
      injection hf with hf
      cases hf
    · obtain ⟨q, hq⟩ := h.reach i _ hi j h1
      rw [show (((k, v) : Int × Int).1) = k from rfl, hf] at hq
      injection hq with hq
      cases hq
theorem StS.notFull (h : StS n home cs) (hh : home k < n) (hw : WayS n home cs k n) : hasS (pairsS cs) k = false ∧ (pairsS cs).length = n := by
  have key : ∀ i, i < n → ∃ q : Int × Int, cs[i]? = some (some q) ∧ q.1 ≠ k := fun i hi => by
    have := hw (farS n (home k) i) (farS_lt (by omega))
    rwa [farS_at hh hi] at this
  refine ⟨?_, ?_⟩
  · cases hc : hasS (pairsS cs) k
    · rfl
    · obtain ⟨v, hv⟩ := hasS_iff.1 hc
      obtain ⟨i, hi⟩ := pairsS_mem.1 hv
      obtain ⟨q, hq, hk⟩ := key i (by have := getS_lt hi; rwa [h.len] at this)
      rw [hi] at hq
      injection hq with hq
      injection hq with hq
      rw [← hq] at hk
      exact absurd rfl hk
  · rw [← h.len]
    exact pairsS_full fun i hi => by
      obtain ⟨q, hq, _⟩ := key i (by rwa [h.len] at hi)
      exact ⟨q, hq⟩
end
def OkS (p : Int × Int) : Prop := (-9223372036854775808 ≤ p.1 ∧ p.1 ≤ 9223372036854775807) ∧ (-9223372036854775808 ≤ p.2 ∧ p.2 ≤ 9223372036854775807)
section
variable {n : Nat} {home : Int → Nat} {cs : List (Option (Int × Int))}
theorem setS_get (cs : List (Option (Int × Int))) (i j : Nat) (x y : Option (Int × Int)) (h : (cs.set i x)[j]? = some y) : (j = i ∧ y = x) ∨ (j ≠ i ∧ cs[j]? = some y) := by
  by_cases e : i = j
  · subst e
    have hl := (List.getElem?_eq_some_iff.1 h).1
    rw [List.length_set] at hl
    left
    refine ⟨rfl, ?_⟩
    simpa [hl, eq_comm] using h
  · right
    refine ⟨fun e2 => e e2.symm, ?_⟩
    simpa [e] using h
theorem setS_some {cs : List (Option (Int × Int))} {i j : Nat} {q p : Int × Int} (h : cs[j]? = some (some q)) : ∃ q', (cs.set i (some p))[j]? = some (some q') := by
  have hl := getS_lt h
  by_cases e : i = j
  · subst e
    exact ⟨p, by simp [hl]⟩
  · exact ⟨q, by simpa [e] using h⟩
/-- a key put where its way ends -/
theorem StS.putNew (h : StS n home cs) {k v : Int} {j : Nat} (hh : home k < n) (hw : WayS n home cs k j) (hj : j < n) (hf : cs[(home k + j) % n]? = some none) (hk : OkS (k, v)) :
    StS n home (cs.set ((home k + j) % n) (some (k, v))) ∧ (pairsS (cs.set ((home k + j) % n) (some (k, v)))).Perm ((k, v) :: outS (pairsS cs) k) ∧ mayS (pairsS cs) n k = true := by
  have hno := h.notFree hh hw hj hf
  have hkey : ∀ (a : Nat) (p : Int × Int), cs[a]? = some (some p) → p.1 ≠ k := fun a p ha e => by
    have : hasS (pairsS cs) k = true := hasS_iff.2 ⟨p.2, pairsS_mem.2 ⟨a, by rw [ha, ← e]⟩⟩
    rw [hno] at this
    cases this
  refine ⟨⟨by rw [List.length_set, h.len], ?_, ?_, ?_⟩, ?_, ?_⟩
  · intro i p hi
    rcases setS_get _ _ _ _ _ hi with ⟨_, e⟩ | ⟨_, e⟩
    · injection e with e
      subst e
      exact hk
    · exact h.ok i p e
  · intro a b p q ha hb e
    rcases setS_get _ _ _ _ _ ha with ⟨e1, e2⟩ | ⟨e1, e2⟩ <;> rcases setS_get _ _ _ _ _ hb with ⟨f1, f2⟩ | ⟨f1, f2⟩
    · rw [e1, f1]
    · injection e2 with e2
      subst e2
      exact absurd e.symm (hkey b q f2)
    · injection f2 with f2
      subst f2
      exact absurd e (hkey a p e2)
    · exact h.one a b p q e2 f2 e
  · intro i p hi e he
    rcases setS_get _ _ _ _ _ hi with ⟨e1, e2⟩ | ⟨e1, e2⟩
    · injection e2 with e2
      subst e2
      subst e1
      rw [show (((k, v) : Int × Int).1) = k from rfl, farS_uniq hh hj] at he
      obtain ⟨q, hq, _⟩ := hw e he
      exact setS_some hq
    · obtain ⟨q, hq⟩ := h.reach i p e2 e he
      exact setS_some hq
  · rw [outS_no hno]
    exact pairsS_put _ hf
  · unfold mayS
    have := pairsS_room hf
    rw [h.len] at this
    simp [this]
/-- another value by a key -/
theorem StS.putOld (h : StS n home cs) {k v v0 : Int} {i : Nat} (hi : cs[i]? = some (some (k, v0))) (hk : OkS (k, v)) :
    StS n home (cs.set i (some (k, v))) ∧ (pairsS (cs.set i (some (k, v)))).Perm ((k, v) :: outS (pairsS cs) k) ∧ mayS (pairsS cs) n k = true := by
  refine ⟨⟨by rw [List.length_set, h.len], ?_, ?_, ?_⟩, ?_, ?_⟩
  · intro i p hi
    rcases setS_get _ _ _ _ _ hi with ⟨_, e⟩ | ⟨_, e⟩
    · injection e with e
      subst e
      exact hk
    · exact h.ok i p e
  · intro a b p q ha hb e
    rcases setS_get _ _ _ _ _ ha with ⟨e1, e2⟩ | ⟨e1, e2⟩ <;> rcases setS_get _ _ _ _ _ hb with ⟨f1, f2⟩ | ⟨f1, f2⟩
    · rw [e1, f1]
    · injection e2 with e2
      subst e2
      rw [e1]
      exact h.one i b _ q hi f2 e
    · injection f2 with f2
      subst f2
      rw [f1]
      exact h.one a i p _ e2 hi e
    · exact h.one a b p q e2 f2 e
  · intro a p ha e he
    have : ∃ p', cs[a]? = some (some p') ∧ p'.1 = p.1 := by
      rcases setS_get _ _ _ _ _ ha with ⟨e1, e2⟩ | ⟨e1, e2⟩
      · injection e2 with e2
        subst e2
        subst e1
        exact ⟨_, hi, rfl⟩
      · exact ⟨_, e2, rfl⟩
    obtain ⟨p', h1, h2⟩ := this
    rw [← h2] at he ⊢
    obtain ⟨q, hq⟩ := h.reach a p' h1 e he
    exact setS_some hq
  · refine (pairsS_change (k, v) hi).trans (List.Perm.cons _ ?_)
    have h1 := pairsS_out hi
    have h2 := outS_perm h1 k
    have hn : (((k, v0) :: pairsS (cs.set i none)).map (·.1)).Nodup := (h1.map (·.1)).nodup_iff.1 h.keys
    rw [List.map_cons, List.nodup_cons] at hn
    have e : outS ((k, v0) :: pairsS (cs.set i none)) k = pairsS (cs.set i none) := by
      have hr : hasS (pairsS (cs.set i none)) k = false := by
        cases hc : hasS (pairsS (cs.set i none)) k
        · rfl
        · obtain ⟨x, hx⟩ := hasS_iff.1 hc
          exact absurd (List.mem_map.2 ⟨_, hx, rfl⟩) hn.1
      show List.filter _ _ = _
      rw [List.filter_cons, if_neg (by simp)]
      exact outS_no hr
    rw [e] at h2
    exact h2.symm
  · unfold mayS
    rw [h.hasAt hi]
    rfl
theorem outS_out (h : StS n home cs) {k v0 : Int} {i : Nat} (hi : cs[i]? = some (some (k, v0))) : (pairsS (cs.set i none)).Perm (outS (pairsS cs) k) := by
  have h1 := pairsS_out hi
  have h2 := outS_perm h1 k
  have hn : (((k, v0) :: pairsS (cs.set i none)).map (·.1)).Nodup := (h1.map (·.1)).nodup_iff.1 h.keys
  rw [List.map_cons, List.nodup_cons] at hn
  have e : outS ((k, v0) :: pairsS (cs.set i none)) k = pairsS (cs.set i none) := by
    have hr : hasS (pairsS (cs.set i none)) k = false := by
      cases hc : hasS (pairsS (cs.set i none)) k
      · rfl
      · obtain ⟨x, hx⟩ := hasS_iff.1 hc
        exact absurd (List.mem_map.2 ⟨_, hx, rfl⟩) hn.1
    show List.filter _ _ = _
    rw [List.filter_cons, if_neg (by simp)]
    exact outS_no hr
  rw [e] at h2
  exact h2.symm
end

/-- cells of which one, g, was emptied; the d - 1 behind it have been looked at -/
structure GapS (n : Nat) (home : Int → Nat) (cs : List (Option (Int × Int))) (g d : Nat) : Prop where
  len : cs.length = n
  ok : ∀ (i : Nat) (p : Int × Int), cs[i]? = some (some p) → OkS p
  one : ∀ (a b : Nat) (p q : Int × Int), cs[a]? = some (some p) → cs[b]? = some (some q) → p.1 = q.1 → a = b
  lt : g < n
  gap : cs[g]? = some none
  pos : 1 ≤ d
  le : d ≤ n
  reach : ∀ (i : Nat) (p : Int × Int), cs[i]? = some (some p) → ∀ j, j < farS n (home p.1) i → (∃ q, cs[(home p.1 + j) % n]? = some (some q)) ∨ ((home p.1 + j) % n = g ∧ d ≤ farS n g i)
section
variable {n : Nat} {home : Int → Nat} {cs : List (Option (Int × Int))} {g d : Nat}
theorem GapS.start (h : StS n home cs) {p : Int × Int} (hg : cs[g]? = some (some p)) : GapS n home (cs.set g none) g 1 := by
  have hl := getS_lt hg
  have hgn : g < n := by rwa [h.len] at hl
  refine ⟨by rw [List.length_set, h.len], ?_, ?_, hgn, by simp [hl], Nat.le_refl _, by omega, ?_⟩
  · intro i p hi
    rcases setS_get _ _ _ _ _ hi with ⟨_, e⟩ | ⟨_, e⟩
    · cases e
    · exact h.ok i p e
  · intro a b p q ha hb e
    rcases setS_get _ _ _ _ _ ha with ⟨e1, e2⟩ | ⟨e1, e2⟩
    · cases e2
    · rcases setS_get _ _ _ _ _ hb with ⟨f1, f2⟩ | ⟨f1, f2⟩
      · cases f2
      · exact h.one a b p q e2 f2 e
  · intro i p hi j hj
    rcases setS_get _ _ _ _ _ hi with ⟨_, e⟩ | ⟨hne, e⟩
    · cases e
    · have hin : i < n := by have := getS_lt e; rwa [h.len] at this
      obtain ⟨q, hq⟩ := h.reach i p e j hj
      by_cases c : (home p.1 + j) % n = g
      · exact .inr ⟨c, farS_pos hgn hin hne⟩
      · exact .inl ⟨q, by rw [List.getElem?_set_ne (fun e => c e.symm)]; exact hq⟩
theorem GapS.stop (h : GapS n home cs g d) (hh : ∀ k, home k < n) (hf : cs[(g + d) % n]? = some none) : StS n home cs := by
  refine ⟨h.len, h.ok, h.one, ?_⟩
  intro i p hi j hj
  have hin : i < n := by have := getS_lt hi; rwa [h.len] at this
  rcases h.reach i p hi j hj with h1 | ⟨h1, h2⟩
  · exact h1
  · exfalso
    have e1 := farS_step (hh p.1) hin (Nat.le_of_lt hj)
    rw [h1] at e1
    have e2 : (g + d) % n = (home p.1 + (j + d)) % n := by rw [← h1, mod_addS]
    have hlt := farS_lt (n := n) (h := g) (i := i) (by omega)
    have hp := h.pos
    rcases Nat.lt_or_ge (j + d) (farS n (home p.1) i) with c | c
    · rcases h.reach i p hi (j + d) c with ⟨q, hq⟩ | ⟨h3, _⟩
      · rw [← e2, hf] at hq
        injection hq with hq
        cases hq
      · rw [← e2] at h3
        have := farS_uniq (n := n) (h := g) (j := d) h.lt (by omega)
        rw [h3, farS_self h.lt] at this
        omega
    · have e3 : j + d = farS n (home p.1) i := by omega
      rw [e2, e3, farS_at (hh p.1) hin, hi] at hf
      injection hf with hf
      cases hf
theorem GapS.lt_of (h : GapS n home cs g d) {p : Int × Int} (hp : cs[(g + d) % n]? = some (some p)) : d < n := by
  have := h.le
  have hg := h.lt
  rcases Nat.lt_or_ge d n with h1 | h1
  · exact h1
  · obtain rfl : d = n := by omega
    rw [Nat.add_mod_right, Nat.mod_eq_of_lt hg, h.gap] at hp
    injection hp with hp
    cases hp
theorem GapS.skip (h : GapS n home cs g d) (hh : ∀ k, home k < n) {p : Int × Int} (hp : cs[(g + d) % n]? = some (some p)) (hf : ¬ farS n (home p.1) g < farS n (home p.1) ((g + d) % n)) : GapS n home cs g (d + 1) := by
  have hd := h.lt_of hp
  refine ⟨h.len, h.ok, h.one, h.lt, h.gap, by omega, hd, ?_⟩
  intro i q hi j hj
  have hin : i < n := by have := getS_lt hi; rwa [h.len] at this
  rcases h.reach i q hi j hj with h1 | ⟨h1, h2⟩
  · exact .inl h1
  · refine .inr ⟨h1, ?_⟩
    rcases Nat.lt_or_ge d (farS n g i) with h3 | h3
    · exact h3
    · exfalso
      have e1 : farS n g i = d := by omega
      have e2 := farS_at h.lt hin
      rw [e1] at e2
      rw [← e2] at hi hj
      rw [hp] at hi
      injection hi with hi
      injection hi with hi
      subst hi
      have hjn : j < n := by
        have := farS_lt (n := n) (h := home p.1) (i := (g + d) % n) (by omega)
        omega
      have e3 := farS_uniq (hh p.1) hjn
      rw [h1] at e3
      rw [e3] at hf
      exact hf hj
theorem GapS.move (h : GapS n home cs g d) (hh : ∀ k, home k < n) {p : Int × Int} (hp : cs[(g + d) % n]? = some (some p)) (hf : farS n (home p.1) g < farS n (home p.1) ((g + d) % n)) :
    GapS n home ((cs.set g (some p)).set ((g + d) % n) none) ((g + d) % n) 1 ∧ (pairsS ((cs.set g (some p)).set ((g + d) % n) none)).Perm (pairsS cs) := by
  have hd := h.lt_of hp
  have hpos := h.pos
  have hg := h.lt
  obtain ⟨i, hi⟩ : ∃ i, i = (g + d) % n := ⟨_, rfl⟩
  have hne : i ≠ g := fun e => by
    have := farS_uniq (n := n) (h := g) (j := d) hg hd
    rw [← hi, e, farS_self hg] at this
    omega
  rw [← hi] at hp hf ⊢
  have hin : i < n := by have := getS_lt hp; rwa [h.len] at this
  have hgl : g < cs.length := by rw [h.len]; exact hg
  have hil : i < cs.length := by rw [h.len]; exact hin
  have get : ∀ (a : Nat) (q : Int × Int), ((cs.set g (some p)).set i none)[a]? = some (some q) → (a = g ∧ q = p) ∨ (a ≠ g ∧ a ≠ i ∧ cs[a]? = some (some q)) := fun a q ha => by
    rcases setS_get _ _ _ _ _ ha with ⟨_, e⟩ | ⟨h1, e⟩
    · cases e
    · rcases setS_get _ _ _ _ _ e with ⟨h2, e⟩ | ⟨h2, e⟩
      · injection e with e
        exact .inl ⟨h2, e⟩
      · exact .inr ⟨h2, h1, e⟩
  refine ⟨⟨by simp [h.len], ?_, ?_, hin, by simp [hil], Nat.le_refl _, by omega, ?_⟩, ?_⟩
  · intro a q ha
    rcases get a q ha with ⟨_, rfl⟩ | ⟨_, _, e⟩
    · exact h.ok i _ hp
    · exact h.ok a q e
  · intro a b q r ha hb e
    rcases get a q ha with ⟨e1, rfl⟩ | ⟨e1, e2, e3⟩ <;> rcases get b r hb with ⟨f1, rfl⟩ | ⟨f1, f2, f3⟩
    · rw [e1, f1]
    · exact absurd (h.one i b _ _ hp f3 e).symm f2
    · exact absurd (h.one a i _ _ e3 hp e) e2
    · exact h.one a b _ _ e3 f3 e
  · have stay : ∀ (a : Nat) (q : Int × Int), a ≠ i → a = g ∨ cs[a]? = some (some q) → ∃ q', ((cs.set g (some p)).set i none)[a]? = some (some q') := fun a q h1 h2 => by
      rw [List.getElem?_set_ne (fun e => h1 e.symm)]
      rcases h2 with rfl | h2
      · exact ⟨p, by simp [hgl]⟩
      · exact setS_some h2
    intro a q ha j hj
    by_cases c : (home q.1 + j) % n = i
    · refine .inr ⟨c, ?_⟩
      rcases get a q ha with ⟨e1, rfl⟩ | ⟨e1, e2, e3⟩
      · rw [e1]
        exact farS_pos hin hg (fun e => hne e.symm)
      · exact farS_pos hin (by have := getS_lt e3; rwa [h.len] at this) e2
    · left
      rcases get a q ha with ⟨e1, rfl⟩ | ⟨e1, e2, e3⟩
      · rw [e1] at hj
        rcases h.reach i q hp j (by omega) with ⟨q', hq'⟩ | ⟨h1, _⟩
        · exact stay _ q' c (.inr hq')
        · exact stay _ q c (.inl h1)
      · rcases h.reach a q e3 j hj with ⟨q', hq'⟩ | ⟨h1, _⟩
        · exact stay _ q' c (.inr hq')
        · exact stay _ q c (.inl h1)
  · have e1 : (cs.set g (some p)).set i none = (cs.set i none).set g (some p) := List.set_comm _ _ (fun e => hne e.symm)
    rw [e1]
    have e2 : (cs.set i none)[g]? = some none := by
      rw [List.getElem?_set_ne hne]
      exact h.gap
    exact (pairsS_put p e2).trans (pairsS_out hp).symm
/-- how far all keys are from their homes, together -/
def dispS (n : Nat) (home : Int → Nat) : Nat → List (Option (Int × Int)) → Nat
  | _, [] => 0
  | o, none :: r => dispS n home (o + 1) r
  | o, some p :: r => farS n (home p.1) o + dispS n home (o + 1) r
def weighS (n : Nat) (home : Int → Nat) (o : Nat) (x : Option (Int × Int)) : Nat := match x with | none => 0 | some p => farS n (home p.1) o
theorem dispS_cons (n : Nat) (home : Int → Nat) (o : Nat) (x : Option (Int × Int)) (r : List (Option (Int × Int))) : dispS n home o (x :: r) = weighS n home o x + dispS n home (o + 1) r := by
  cases x with
  | none => show dispS n home (o + 1) r = 0 + dispS n home (o + 1) r; omega
  | some p => rfl
theorem dispS_set (n : Nat) (home : Int → Nat) (x : Option (Int × Int)) : ∀ (cs : List (Option (Int × Int))) (o i : Nat) (y : Option (Int × Int)), cs[i]? = some y → dispS n home o (cs.set i x) + weighS n home (o + i) y = dispS n home o cs + weighS n home (o + i) x
  | [], o, i, y, h => by simp at h
  | c :: r, o, 0, y, h => by
    have e : c = y := by simpa using h
    subst e
    have a1 := dispS_cons n home o x r
    have a2 := dispS_cons n home o c r
    rw [List.set_cons_zero, Nat.add_zero o, a1, a2]
    omega
  | c :: r, o, i + 1, y, h => by
    have ih := dispS_set n home x r (o + 1) i y (by simpa using h)
    rw [List.set_cons_succ, dispS_cons, dispS_cons, show o + (i + 1) = o + 1 + i by omega]
    omega
theorem GapS.less (h : GapS n home cs g d) {p : Int × Int} (hp : cs[(g + d) % n]? = some (some p)) (hf : farS n (home p.1) g < farS n (home p.1) ((g + d) % n)) :
    dispS n home 0 ((cs.set g (some p)).set ((g + d) % n) none) < dispS n home 0 cs := by
  have hd := h.lt_of hp
  have hpos := h.pos
  have hg := h.lt
  obtain ⟨i, hi⟩ : ∃ i, i = (g + d) % n := ⟨_, rfl⟩
  have hne : i ≠ g := fun e => by
    have := farS_uniq (n := n) (h := g) (j := d) hg hd
    rw [← hi, e, farS_self hg] at this
    omega
  rw [← hi] at hp hf ⊢
  have h1 := dispS_set n home (some p) cs 0 g none h.gap
  have h2 : (cs.set g (some p))[i]? = some (some p) := by rw [List.getElem?_set_ne (fun e => hne e.symm)]; exact hp
  have h3 := dispS_set n home none (cs.set g (some p)) 0 i (some p) h2
  simp only [weighS, Nat.zero_add] at h1 h3
  omega
/-- what is left to do -/
def leftS (n : Nat) (home : Int → Nat) (cs : List (Option (Int × Int))) (d : Nat) : Nat := dispS n home 0 cs * (n + 1) + (n - d)
theorem leftS_skip (home : Int → Nat) (cs : List (Option (Int × Int))) {n d : Nat} (h : d < n) : leftS n home cs (d + 1) < leftS n home cs d := by
  unfold leftS
  omega
theorem leftS_move {home : Int → Nat} {cs cs' : List (Option (Int × Int))} {n d : Nat} (h : dispS n home 0 cs' < dispS n home 0 cs) : leftS n home cs' 1 < leftS n home cs d := by
  unfold leftS
  have : (dispS n home 0 cs' + 1) * (n + 1) ≤ dispS n home 0 cs * (n + 1) := Nat.mul_le_mul_right _ h
  rw [Nat.add_mul, Nat.one_mul] at this
  generalize dispS n home 0 cs' * (n + 1) = a at *
  generalize dispS n home 0 cs * (n + 1) = b at *
  omega
end
end Go.Proofs.Ytipggnjjmpacmaa
