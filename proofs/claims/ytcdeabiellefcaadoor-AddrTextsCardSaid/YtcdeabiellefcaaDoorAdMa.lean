/- Plain mathematics of layer 3: the code's text of an address is the document's. No condition but that there are eight numbers. -/
import Derived.Test.YtcdeabiellefcaaDoorAdQ
namespace Go.Proofs.YtcdeabiellefcaaDoor

theorem lrN_congr {z z' : Nat → Bool} : ∀ k, (∀ i, i < k → z i = z' i) → lrN z k = lrN z' k
  | 0, _ => rfl
  | k + 1, h => by rw [lrN, lrN, lrN_congr k (fun i hi => h i (by omega)), h k (by omega)]
theorem zrF_congr {z z' : Nat → Bool} : ∀ f a, (∀ i, i < a + f → z i = z' i) → zrF z f a = zrF z' f a
  | 0, _, _ => rfl
  | f + 1, a, h => by rw [zrF, zrF, zrF_congr f (a + 1) (fun i hi => h i (by omega)), h a (by omega)]
theorem zrN_congr {z z' : Nat → Bool} (h : ∀ i, i < 8 → z i = z' i) (a : Nat) : zrN z a = zrN z' a := by
  unfold zrN
  rcases Nat.lt_or_ge a 8 with ha | ha
  · exact zrF_congr _ _ (fun i hi => h i (by omega))
  · rw [show 8 - a = 0 by omega]; rfl
theorem bestF_congr {z z' : Nat → Bool} (h : ∀ i, i < 8 → z i = z' i) : ∀ k, bestF z k = bestF z' k
  | 0 => rfl
  | k + 1 => by rw [bestF, bestF, bestF_congr h k, zrN_congr h, zrN_congr h]
def zOf (l : List Bool) : Nat → Bool := fun i => l.getD i false
theorem rows_tab : ∀ b0 b1 b2 b3 b4 b5 b6 b7 : Bool, (lrN (zOf [b0, b1, b2, b3, b4, b5, b6, b7]) 8).1 = bestF (zOf [b0, b1, b2, b3, b4, b5, b6, b7]) 7 ∧
    (lrN (zOf [b0, b1, b2, b3, b4, b5, b6, b7]) 8).2.1 = zrN (zOf [b0, b1, b2, b3, b4, b5, b6, b7]) (bestF (zOf [b0, b1, b2, b3, b4, b5, b6, b7]) 7) ∧
    (∀ i : Fin 8, (lrN (zOf [b0, b1, b2, b3, b4, b5, b6, b7]) 8).1 ≤ i.val → i.val < (lrN (zOf [b0, b1, b2, b3, b4, b5, b6, b7]) 8).1 + (lrN (zOf [b0, b1, b2, b3, b4, b5, b6, b7]) 8).2.1 → zOf [b0, b1, b2, b3, b4, b5, b6, b7] i.val = true) := by decide +kernel
theorem rows_same (z : Nat → Bool) : (lrN z 8).1 = bestF z 7 ∧ (lrN z 8).2.1 = zrN z (bestF z 7) ∧ ∀ i, (lrN z 8).1 ≤ i → i < (lrN z 8).1 + (lrN z 8).2.1 → z i = true := by
  have hz : ∀ i, i < 8 → z i = zOf [z 0, z 1, z 2, z 3, z 4, z 5, z 6, z 7] i := fun i hi => by
    match i, hi with
    | 0, _ => rfl
    | 1, _ => rfl
    | 2, _ => rfl
    | 3, _ => rfl
    | 4, _ => rfl
    | 5, _ => rfl
    | 6, _ => rfl
    | 7, _ => rfl
  have h := rows_tab (z 0) (z 1) (z 2) (z 3) (z 4) (z 5) (z 6) (z 7)
  have hle := lrN_le z 8
  rw [lrN_congr 8 hz] at hle ⊢
  rw [bestF_congr hz, zrN_congr hz]
  refine ⟨h.1, h.2.1, fun i h1 h2 => ?_⟩
  rw [hz i (by omega)]
  exact h.2.2 ⟨i, by omega⟩ h1 h2

theorem list8 {ws : List Int} (h : ws.length = 8) : ∃ a b c d e f g i, ws = [a, b, c, d, e, f, g, i] := by
  match ws, h with
  | [a, b, c, d, e, f, g, i], _ => exact ⟨a, b, c, d, e, f, g, i, rfl⟩
theorem spell_nil : spellL [] = [] := rfl
theorem spell_one (x : Int) : spellL [x] = hexL x.toNat := by simp [spellL, join_one]
theorem spell_cons (x y : Int) (r : List Int) : spellL (x :: y :: r) = hexL x.toNat ++ 58 :: spellL (y :: r) := by
  simp [spellL, join_cons2]

theorem text_small (ws : List Int) (h : ws.length = 8) (b l : Nat) (hl : l < 2) : rtx ws b l 8 = spellL ws := by
  obtain ⟨w0, w1, w2, w3, w4, w5, w6, w7, rfl⟩ := list8 h
  have h2 : ¬ 2 ≤ l := by omega
  simp [rtx, spell_cons, spell_one, h2, hl]
theorem text_great (ws : List Int) (h : ws.length = 8) (b l : Nat) (hl : 2 ≤ l) (hb : b + l ≤ 8) : rtx ws b l 8 = spellL (ws.take b) ++ [58, 58] ++ spellL (ws.drop (b + l)) := by
  obtain ⟨w0, w1, w2, w3, w4, w5, w6, w7, rfl⟩ := list8 h
  have h1 : l = 2 ∨ l = 3 ∨ l = 4 ∨ l = 5 ∨ l = 6 ∨ l = 7 ∨ l = 8 := by omega
  have h2 : b = 0 ∨ b = 1 ∨ b = 2 ∨ b = 3 ∨ b = 4 ∨ b = 5 ∨ b = 6 := by omega
  rcases h1 with rfl | rfl | rfl | rfl | rfl | rfl | rfl <;> rcases h2 with rfl | rfl | rfl | rfl | rfl | rfl | rfl <;> first | omega | simp [rtx, spell_cons, spell_one, spell_nil]
theorem text_same (s : List Int) : textL s = rtextL s := by
  have h := rows_same (isZ (wordsL s))
  have hle := lrN_le (isZ (wordsL s)) 8
  unfold textL rtextL textW
  rw [← h.2.1, ← h.1]
  split
  · rename_i hl
    rw [text_small (wordsL s) (wordsL_length s) _ _ hl]
  · rename_i hl
    rw [text_great (wordsL s) (wordsL_length s) _ _ (by omega) hle.2.2.2]
end Go.Proofs.YtcdeabiellefcaaDoor
