/- Stage 20: versions as the page says them, as functions of lists: which may be pushed, what becomes of the kept ones, the backends of each; that what was the newest one lately is kept. No program here; no condition. -/
import Derived.Test.YtedldebomoplmaaPiA
set_option maxRecDepth 100000
namespace Go.Proofs.Ytedldebomoplmaa
set_option linter.unusedVariables false

/-- a version: its number, from when, until when it was the newest one, its table -/
structure Vb where
  n : Int
  f : Int
  u : Int
  t : List Int
def zeroVb : Vb := ⟨0, 0, 0, []⟩
/-- why none may be pushed; 0: one may -/
def mayH (l : List Vb) (now : Int) : Int :=
  if now < 0 ∨ (0 < l.length ∧ now < (l.getD (l.length - 1) zeroVb).f) then 2 else if l.length = 4 ∧ now - (l.getD 0 zeroVb).u < 16 then 11 else 0
/-- the newest one's time is over -/
def overH (now : Int) : List Vb → List Vb
  | [] => []
  | [v] => [{ v with u := now }]
  | v :: x :: r => v :: overH now (x :: r)
def pushH (l : List Vb) (last now : Int) (t : List Int) : List Vb := (if l.length < 4 then overH now l else (overH now l).drop 1) ++ [⟨last + 1, now, -1, t⟩]
def lastH (last : Int) (e : Int) : Int := if e = 0 then last + 1 else last
def nextH (l : List Vb) (last now : Int) (t : List Int) : List Vb := if mayH l now = 0 then pushH l last now t else l
def pairsH (l : List Vb) (h : Nat) : List (Int × Int) := l.map fun v => (firstP v.t h, secondP v.t h)

/-- how the kept ones always are -/
structure RightH (l : List Vb) (last : Int) : Prop where
  few : l.length ≤ 4
  num : ∀ i, i < l.length → (l.getD i zeroVb).n = last - (l.length - 1 - i : Nat)
  from_ : ∀ i, i < l.length → 0 ≤ (l.getD i zeroVb).f ∧ (l.getD i zeroVb).f ≤ 9223372036854775807
  rise : ∀ i, i + 1 < l.length → (l.getD i zeroVb).f ≤ (l.getD (i + 1) zeroVb).f
  until_ : ∀ i, i + 1 < l.length → (l.getD i zeroVb).u = (l.getD (i + 1) zeroVb).f
  new : 0 < l.length → (l.getD (l.length - 1) zeroVb).u = -1
  pos : (l.length : Int) ≤ last
theorem RightH.nil : RightH [] 0 := ⟨by simp, fun i h => absurd h (by simp), fun i h => absurd h (by simp), fun i h => absurd h (by simp), fun i h => absurd h (by simp), fun h => absurd h (by simp), by simp⟩

theorem overH_len (now : Int) : ∀ l : List Vb, (overH now l).length = l.length
  | [] => rfl
  | [v] => rfl
  | v :: x :: r => by
    have := overH_len now (x :: r)
    simp only [overH, List.length_cons] at this ⊢
    omega
theorem overH_get (now : Int) : ∀ (l : List Vb) (i : Nat), i < l.length → (overH now l).getD i zeroVb = if i + 1 = l.length then { l.getD i zeroVb with u := now } else l.getD i zeroVb
  | [], i, h => absurd h (by simp)
  | [v], i, h => by
    have : i = 0 := by simpa using h
    subst this
    rfl
  | v :: x :: r, 0, h => by
    rw [if_neg (by simp)]
    rfl
  | v :: x :: r, i + 1, h => by
    have := overH_get now (x :: r) i (by simpa using h)
    show (overH now (x :: r)).getD i zeroVb = _
    rw [this]
    simp
/-- up to some one: the newest one alone turns -/
theorem overH_take (now : Int) (l : List Vb) (i : Nat) (h : i < l.length) : (overH now l).take (i + 1) = (overH now l).take i ++ [if i + 1 = l.length then { l.getD i zeroVb with u := now } else l.getD i zeroVb] := by
  have hi : i < (overH now l).length := by rw [overH_len]; exact h
  rw [List.take_succ_eq_append_getElem hi, ← overH_get now l i h]
  simp [List.getD, hi]
/-- all of the list of those that were pushed, and the kept ones of it: the last of them; of the others the time is long over -/
structure KeptH (all l : List Vb) (now : Int) : Prop where
  len : l.length ≤ all.length
  same : ∀ i, i < l.length → l.getD i zeroVb = all.getD (all.length - l.length + i) zeroVb
  gone : ∀ i, i < all.length - l.length → 0 ≤ (all.getD i zeroVb).u ∧ 16 ≤ now - (all.getD i zeroVb).u
  some_ : 0 < all.length → 0 < l.length
theorem KeptH.nil : KeptH [] [] 0 := ⟨by simp, fun i h => absurd h (by simp), fun i h => absurd h (by simp), fun h => h⟩

theorem getD_app1 {α : Type} (l r : List α) (i : Nat) (d : α) (h : i < l.length) : (l ++ r).getD i d = l.getD i d := by
  simp [List.getD, List.getElem?_append_left h]
theorem getD_app2 {α : Type} (l : List α) (x d : α) : (l ++ [x]).getD l.length d = x := by
  simp [List.getD]
theorem getD_drop1 {α : Type} (l : List α) (i k : Nat) (d : α) : (l.drop k).getD i d = l.getD (k + i) d := by
  simp [List.getD]
/-- how many go -/
def goneH (l : List Vb) : Nat := if l.length < 4 then 0 else 1
theorem pushH_eq (l : List Vb) (last now : Int) (t : List Int) : pushH l last now t = (overH now l).drop (goneH l) ++ [⟨last + 1, now, -1, t⟩] := by
  unfold pushH goneH
  split
  · rfl
  · rfl
theorem pushH_len (l : List Vb) (last now : Int) (t : List Int) : (pushH l last now t).length = l.length - goneH l + 1 := by
  rw [pushH_eq, List.length_append, List.length_drop, overH_len]
  rfl
theorem pushH_get (l : List Vb) (last now : Int) (t : List Int) (i : Nat) (h : i < l.length - goneH l) :
    (pushH l last now t).getD i zeroVb = if goneH l + i + 1 = l.length then { l.getD (goneH l + i) zeroVb with u := now } else l.getD (goneH l + i) zeroVb := by
  rw [pushH_eq, getD_app1 _ _ _ _ (by rw [List.length_drop, overH_len]; exact h), getD_drop1, overH_get _ _ _ (by omega)]
theorem pushH_last (l : List Vb) (last now : Int) (t : List Int) : (pushH l last now t).getD (l.length - goneH l) zeroVb = ⟨last + 1, now, -1, t⟩ := by
  have h := getD_app2 ((overH now l).drop (goneH l)) (⟨last + 1, now, -1, t⟩ : Vb) zeroVb
  rw [List.length_drop, overH_len] at h
  rw [pushH_eq]
  exact h
theorem mayH_zero {l : List Vb} {now : Int} (h : mayH l now = 0) : 0 ≤ now ∧ (0 < l.length → (l.getD (l.length - 1) zeroVb).f ≤ now) ∧ (l.length = 4 → 16 ≤ now - (l.getD 0 zeroVb).u) := by
  unfold mayH at h
  by_cases h1 : now < 0 ∨ (0 < l.length ∧ now < (l.getD (l.length - 1) zeroVb).f)
  · rw [if_pos h1] at h
    exact absurd h (by decide)
  · rw [if_neg h1] at h
    by_cases h2 : l.length = 4 ∧ now - (l.getD 0 zeroVb).u < 16
    · rw [if_pos h2] at h
      exact absurd h (by decide)
    · exact ⟨by omega, fun h3 => by omega, fun h3 => by omega⟩
theorem goneH_le (l : List Vb) (h : l.length ≤ 4) : goneH l ≤ l.length ∧ l.length - goneH l ≤ 3 ∧ goneH l ≤ 1 := by
  unfold goneH
  split <;> omega
theorem RightH.push {l : List Vb} {last now : Int} (h : RightH l last) (t : List Int) (hm : mayH l now = 0) (hn : now ≤ 9223372036854775807) : RightH (pushH l last now t) (last + 1) := by
  obtain ⟨m1, m2, m3⟩ := mayH_zero hm
  obtain ⟨g1, g2, g3⟩ := goneH_le l h.few
  have hl := pushH_len l last now t
  have hg := pushH_get l last now t
  have hz := pushH_last l last now t
  generalize pushH l last now t = L at *
  generalize goneH l = g at *
  have hL : L.length - 1 = l.length - g := by omega
  have get1 : ∀ i, i < l.length - g → (L.getD i zeroVb).n = (l.getD (g + i) zeroVb).n ∧ (L.getD i zeroVb).f = (l.getD (g + i) zeroVb).f := fun i hi => by
    rw [hg i hi]
    split
    · exact ⟨rfl, rfl⟩
    · exact ⟨rfl, rfl⟩
  refine ⟨by omega, fun i hi => ?_, fun i hi => ?_, fun i hi => ?_, fun i hi => ?_, fun _ => ?_, ?_⟩
  · by_cases e : i < l.length - g
    · rw [(get1 i e).1, h.num (g + i) (by omega)]
      omega
    · obtain rfl : i = l.length - g := by omega
      rw [hz]
      simp only
      omega
  · by_cases e : i < l.length - g
    · rw [(get1 i e).2]
      exact h.from_ (g + i) (by omega)
    · obtain rfl : i = l.length - g := by omega
      rw [hz]
      exact ⟨m1, hn⟩
  · rw [(get1 i (by omega)).2]
    by_cases e : i + 1 < l.length - g
    · rw [(get1 (i + 1) e).2]
      exact h.rise (g + i) (by omega)
    · have e2 : i + 1 = l.length - g := by omega
      rw [e2, hz, show g + i = l.length - 1 by omega]
      exact m2 (by omega)
  · by_cases e : i + 1 < l.length - g
    · rw [hg i (by omega), if_neg (by omega), (get1 (i + 1) e).2]
      exact h.until_ (g + i) (by omega)
    · have e2 : i + 1 = l.length - g := by omega
      rw [hg i (by omega), if_pos (by omega), e2, hz]
  · rw [hL, hz]
  · have := h.pos
    omega
theorem KeptH.push {all l : List Vb} {last now now0 : Int} (k : KeptH all l now0) (h : RightH l last) (t : List Int) (hm : mayH l now = 0) (hnn : now0 ≤ now) (hla : last = all.length) :
    KeptH (overH now all ++ [⟨(all.length : Int) + 1, now, -1, t⟩]) (pushH l last now t) now := by
  obtain ⟨m1, m2, m3⟩ := mayH_zero hm
  obtain ⟨g1, g2, g3⟩ := goneH_le l h.few
  have hl := pushH_len l last now t
  have hg := pushH_get l last now t
  have hz := pushH_last l last now t
  have hgd : goneH l = 1 → l.length = 4 := by
    have := h.few
    unfold goneH
    split <;> omega
  generalize pushH l last now t = L at *
  generalize goneH l = g at *
  have hal : (overH now all ++ [(⟨(all.length : Int) + 1, now, -1, t⟩ : Vb)]).length = all.length + 1 := by simp [overH_len]
  have k1 := k.len
  refine ⟨by omega, fun i hi => ?_, fun i hi => ?_, fun _ => by omega⟩
  · rw [hal, show all.length + 1 - L.length + i = all.length - l.length + g + i by omega]
    by_cases e : i < l.length - g
    · rw [getD_app1 _ _ _ _ (by rw [overH_len]; omega), overH_get _ _ _ (by omega), hg i e, k.same (g + i) (by omega), show all.length - l.length + (g + i) = all.length - l.length + g + i by omega]
      by_cases e2 : g + i + 1 = l.length
      · rw [if_pos e2, if_pos (by omega)]
      · rw [if_neg e2, if_neg (by omega)]
    · obtain rfl : i = l.length - g := by omega
      have h1 := getD_app2 (overH now all) (⟨(all.length : Int) + 1, now, -1, t⟩ : Vb) zeroVb
      rw [overH_len] at h1
      rw [hz, show all.length - l.length + g + (l.length - g) = all.length by omega, h1, hla]
  · rw [hal] at hi
    have hs := k.some_
    rw [getD_app1 _ _ _ _ (by rw [overH_len]; omega), overH_get _ _ _ (by omega), if_neg (by omega)]
    by_cases e : i < all.length - l.length
    · have := k.gone i e
      omega
    · have e1 : i = all.length - l.length + 0 := by omega
      have h4 := hgd (by omega)
      have h2 := k.same 0 (by omega)
      rw [← e1] at h2
      rw [← h2]
      have h3 := h.until_ 0 (by omega)
      have h5 := h.from_ 1 (by omega)
      have h6 := m3 h4
      simp only [Nat.zero_add] at h3
      omega
end Go.Proofs.Ytedldebomoplmaa
