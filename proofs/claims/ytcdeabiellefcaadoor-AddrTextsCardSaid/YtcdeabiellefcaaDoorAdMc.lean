/- Plain mathematics of layer 3: an address is read from its text as what it was. No condition but that it is 16 bytes. -/
import Derived.Test.YtcdeabiellefcaaDoorAdMb
namespace Go.Proofs.YtcdeabiellefcaaDoor

theorem hexD_58 (d : Nat) (h : d < 16) : ¬ (hexD d).toNat = 58 := by
  have k : ∀ n : Fin 16, ¬ (hexD n.val).toNat = 58 := by decide
  exact k ⟨d, h⟩
theorem hexF_cols (f : Nat) : ∀ n, cols (hexF f n) = 0 := by
  induction f with
  | zero => intro n; rfl
  | succ f ih =>
    intro n
    rw [hexF]
    split
    · rename_i h; rw [cols, if_neg (hexD_58 n h)]; rfl
    · rw [cols_append, ih, cols, if_neg (hexD_58 (n % 16) (by omega))]; rfl
theorem hexL_cols (n : Nat) : cols (hexL n) = 0 := hexF_cols 5 n
theorem hexF_read (f : Nat) : ∀ n, n < 16 ^ f → 0 < f → rdAcc 0 (hexF f n) = some n := by
  induction f with
  | zero => intro n _ h; omega
  | succ f ih =>
    intro n hn _
    rw [hexF]
    split
    · rename_i h
      rw [rdAcc, (digV_hexD n h).1]
      show rdAcc (0 * 16 + n) [] = _
      rw [rdAcc]; congr 1; omega
    · rename_i h
      have hf : 0 < f := by
        cases f with
        | zero => simp at hn; omega
        | succ _ => omega
      rw [rdAcc_append, ih (n / 16) (by rw [Nat.pow_succ] at hn; omega) hf]
      show rdAcc (n / 16) [hexD (n % 16)] = _
      rw [rdAcc, (digV_hexD (n % 16) (by omega)).1]
      show rdAcc (n / 16 * 16 + n % 16) [] = _
      rw [rdAcc]; congr 1; omega
theorem hexF_pos (f n : Nat) (h : 0 < f) : 0 < (hexF f n).length := by
  cases f with
  | zero => omega
  | succ f => rw [hexF]; split <;> simp
theorem hexL_four (n : Nat) (h : n < 65536) : 0 < (hexL n).length ∧ (hexL n).length ≤ 4 := by
  refine ⟨hexF_pos 5 n (by omega), ?_⟩
  unfold hexL
  rw [hexF_fuel 5 4 n (by omega) (by omega) (by omega) (by omega)]
  exact hexF_length 4 n
theorem rdG_hex (n : Nat) (h : n < 65536) : rdG (hexL n) = some n :=
  rdG_some (hexL_four n h).1 (hexL_four n h).2 (hexF_read 5 n (by omega) (by omega))

theorem parse_spell : ∀ (xs : List Int), xs ≠ [] → (∀ x ∈ xs, 0 ≤ x ∧ x < 65536) → parse [] (spellL xs) = some xs
  | [], h, _ => absurd rfl h
  | [x], _, hr => by
    have hx := hr x (by simp)
    have := parse_free (hexL x.toNat) [] [] (hexL_cols _)
    rw [List.append_nil, List.nil_append] at this
    rw [spell_one, this, parse, rdG_hex _ (by omega)]
    show some [((x.toNat : Nat) : Int)] = _
    rw [Int.toNat_of_nonneg hx.1]
  | x :: y :: r, _, hr => by
    have hx := hr x (by simp)
    rw [spell_cons, parse_free _ [] _ (hexL_cols _), List.nil_append, parse, if_pos (show (58 : UInt8).toNat = 58 from rfl), rdG_hex _ (by omega), parse_spell (y :: r) (by simp) (fun z hz => hr z (by simp [hz]))]
    show some (((x.toNat : Nat) : Int) :: y :: r) = _
    rw [Int.toNat_of_nonneg hx.1]
theorem spell_pos : ∀ (xs : List Int), xs ≠ [] → ∃ b t, spellL xs = b :: t ∧ ¬ b.toNat = 58
  | [], h => absurd rfl h
  | x :: r, _ => by
    have hp := hexF_pos 5 x.toNat (by omega)
    have hc := hexL_cols x.toNat
    obtain ⟨b, t, e⟩ : ∃ b t, hexL x.toNat = b :: t := by
      cases hq : hexL x.toNat with
      | nil => unfold hexL at hq; rw [hq] at hp; simp at hp
      | cons b t => exact ⟨b, t, rfl⟩
    have h58 : ¬ b.toNat = 58 := fun k => by rw [e, cols, if_pos k] at hc; omega
    cases r with
    | nil => exact ⟨b, t, by rw [spell_one, e], h58⟩
    | cons y r => exact ⟨b, t ++ 58 :: spellL (y :: r), by rw [spell_cons, e]; rfl, h58⟩
theorem groups_spell (xs : List Int) (h : xs.length ≤ 9) (hr : ∀ x ∈ xs, 0 ≤ x ∧ x < 65536) : rdGroups (spellL xs) = some xs := by
  by_cases h0 : xs = []
  · subst h0; rfl
  · obtain ⟨b, t, e, _⟩ := spell_pos xs h0
    have hp := parse_spell xs h0 hr
    have hl := parse_length _ _ _ hp
    rw [groups_is _ (by rw [e]; simp), if_pos (by omega), hp]

theorem occ_shift (P Q sub : List UInt8) (i : Nat) : Lib.occAt (P ++ Q) sub (P.length + i) = Lib.occAt Q sub i := by
  unfold Lib.occAt
  rw [List.drop_append, List.drop_eq_nil_of_le (by omega), List.nil_append, show P.length + i - P.length = i by omega]
/-- no colons stand together, nor at the end -/
def Fr (A : List UInt8) : Prop := ∀ t j, j < A.length → Lib.occAt (A ++ t) [58, 58] j = false
theorem occ_first {b : UInt8} {t : List UInt8} (h : ¬ b.toNat = 58) : Lib.occAt (b :: t) [58, 58] 0 = false := by
  have : (58 == b) = false := by
    rw [beq_eq_false_iff_ne]
    intro e
    exact h (by rw [← e]; rfl)
  simp [Lib.occAt, List.isPrefixOf, this]
theorem fr_free {A : List UInt8} (h : cols A = 0) : Fr A := fun t j hj => by
  obtain ⟨P, b, Q, rfl, hP⟩ : ∃ P b Q, A = P ++ b :: Q ∧ P.length = j := ⟨A.take j, A[j], A.drop (j + 1), by rw [← List.drop_eq_getElem_cons hj, List.take_append_drop], by simp; omega⟩
  have h58 : ¬ b.toNat = 58 := fun k => by rw [cols_append, cols, if_pos k] at h; omega
  have := occ_shift P ((b :: Q) ++ t) [58, 58] 0
  rw [List.append_assoc, ← hP, ← Nat.add_zero P.length, this]
  exact occ_first h58
theorem fr_spell : ∀ (xs : List Int), Fr (spellL xs)
  | [] => fun t j hj => absurd hj (by rw [spell_nil]; simp)
  | [x] => by rw [spell_one]; exact fr_free (hexL_cols _)
  | x :: y :: r => fun t j hj => by
    rw [spell_cons] at hj ⊢
    rcases Nat.lt_or_ge j (hexL x.toNat).length with h | h
    · rw [List.append_assoc]; exact fr_free (hexL_cols _) _ j h
    · obtain ⟨i, rfl⟩ : ∃ i, j = (hexL x.toNat).length + i := ⟨j - (hexL x.toNat).length, by omega⟩
      rw [List.append_assoc, occ_shift]
      cases i with
      | zero =>
        obtain ⟨b, u, e, h58⟩ := spell_pos (y :: r) (by simp)
        rw [e]
        have : (58 == b) = false := by
          rw [beq_eq_false_iff_ne]
          intro e
          exact h58 (by rw [← e]; rfl)
        simp [Lib.occAt, List.isPrefixOf, this]
      | succ i =>
        have := occ_shift [58] (spellL (y :: r) ++ t) [58, 58] i
        rw [List.length_singleton, Nat.add_comm] at this
        rw [show (58 :: spellL (y :: r)) ++ t = [58] ++ (spellL (y :: r) ++ t) from rfl, this]
        exact fr_spell (y :: r) t i (by simp at hj; omega)
theorem cut_plain {A : List UInt8} (h : Fr A) : Lib.cut A [58, 58] = (A, [], false) := by
  have hi : Lib.index A [58, 58] = -1 := Lib.index_none fun j _ => by
    rcases Nat.lt_or_ge j A.length with hj | hj
    · have := h [] j hj
      rwa [List.append_nil] at this
    · unfold Lib.occAt
      rw [List.drop_eq_nil_of_le hj]
      rfl
  unfold Lib.cut
  rw [hi, if_neg (by omega)]
theorem cut_double {A B : List UInt8} (h : Fr A) : Lib.cut (A ++ [58, 58] ++ B) [58, 58] = (A, B, true) := by
  have hi : Lib.index (A ++ [58, 58] ++ B) [58, 58] = (A.length : Int) := by
    refine Lib.index_first (by simp) ?_ fun j hj => ?_
    · have := occ_shift A ([58, 58] ++ B) [58, 58] 0
      rw [Nat.add_zero, ← List.append_assoc] at this
      rw [this]; rfl
    · rw [List.append_assoc]; exact h _ j hj
  unfold Lib.cut
  rw [hi, if_pos (by omega), Int.toNat_natCast]
  have e1 : (A ++ [58, 58] ++ B).take A.length = A := by rw [List.append_assoc]; exact List.take_left' rfl
  have e2 : (A ++ [58, 58] ++ B).drop (A.length + ([58, 58] : List UInt8).length) = B := by
    rw [show A.length + ([58, 58] : List UInt8).length = (A ++ [58, 58]).length by simp]
    exact List.drop_left' rfl
  rw [e1, e2]

theorem of_words {s : List Int} (h : s.length = 16) (vs : AllB s) : ofL (wordsL s) = s := by
  apply List.ext_getElem?
  intro i
  by_cases hi : i < 16
  · have e : (ofL (wordsL s))[i]? = some (ofAt (wordsL s) i) := by simp [ofL, hi]
    have e2 : s[i]? = some (s.getD i 0) := by simp [List.getD, show i < s.length by omega]
    rw [e, e2]
    congr 1
    unfold ofAt
    rw [wordsL_getD s (i / 2) (by omega)]
    unfold num2
    have v0 := vs.getD (2 * (i / 2))
    have v1 := vs.getD (2 * (i / 2) + 1)
    split
    · rename_i h2
      rw [show 2 * (i / 2) = i by omega] at v0 v1 ⊢
      omega
    · rename_i h2
      rw [show 2 * (i / 2) + 1 = i by omega] at v1 ⊢
      omega
  · rw [List.getElem?_eq_none (by rw [ofL_length]; omega), List.getElem?_eq_none (by omega)]
theorem mem_range {ws : List Int} (h : ∀ i, 0 ≤ ws.getD i 0 ∧ ws.getD i 0 < 65536) : ∀ x ∈ ws, 0 ≤ x ∧ x < 65536 := fun x hx => by
  obtain ⟨i, hi, rfl⟩ := List.getElem_of_mem hx
  have := h i
  have e : ws.getD i 0 = ws[i] := by simp [List.getD, hi]
  rwa [e] at this
theorem zeros_between {ws : List Int} {a n : Nat} (h8 : ws.length = 8) (han : a + n ≤ 8) (hz : ∀ i, a ≤ i → i < a + n → isZ ws i = true) : ws.take a ++ (List.replicate n 0 ++ ws.drop (a + n)) = ws := by
  have e : (ws.drop a).take n = List.replicate n 0 := by
    apply List.ext_getElem?
    intro i
    by_cases hi : i < n
    · have h1 := hz (a + i) (by omega) (by omega)
      unfold isZ at h1
      rw [beq_iff_eq] at h1
      simp only [List.getElem?_take, hi, if_true, List.getElem?_drop, List.getElem?_replicate]
      simp only [List.getD] at h1
      have h2 : a + i < ws.length := by omega
      rw [List.getElem?_eq_getElem h2] at h1 ⊢
      exact congrArg some h1
    · rw [List.getElem?_eq_none (by simp; omega), List.getElem?_eq_none (by simp; omega)]
  rw [← e]
  have e2 : (ws.drop a).take n ++ ws.drop (a + n) = ws.drop a := by
    rw [← List.drop_drop]
    exact List.take_append_drop n (ws.drop a)
  rw [e2, List.take_append_drop]
theorem read_text {s : List Int} (h : s.length = 16) (vs : AllB s) : readL (textL s) = some s := by
  have hw := wordsL_length s
  have hr := mem_range (words_range vs)
  have hof := of_words h vs
  have hrow := rows_same (isZ (wordsL s))
  have hle := lrN_le (isZ (wordsL s)) 8
  unfold readL textL textW
  generalize (lrN (isZ (wordsL s)) 8).1 = a at *
  generalize (lrN (isZ (wordsL s)) 8).2.1 = n at *
  generalize wordsL s = ws at *
  by_cases hn : n < 2
  · rw [if_pos hn, cut_plain (fr_spell ws), groups_spell ws (by omega) hr]
    show readP false (some ws) (some []) = _
    unfold readP
    simp [hw, hof]
  · rw [if_neg hn, cut_double (fr_spell (ws.take a)), groups_spell (ws.take a) (by simp; omega) (fun x hx => hr x (List.mem_of_mem_take hx)), groups_spell (ws.drop (a + n)) (by simp; omega) (fun x hx => hr x (List.mem_of_mem_drop hx))]
    have e1 : (ws.take a).length = a := by simp; omega
    have e2 : (ws.drop (a + n)).length = 8 - (a + n) := by simp [hw]
    show readP true (some (ws.take a)) (some (ws.drop (a + n))) = _
    unfold readP
    dsimp only
    rw [if_pos (by rw [if_pos rfl, e1, e2]; omega), e1, e2, show 8 - a - (8 - (a + n)) = n by omega, zeros_between hw hle.2.2.2 hrow.2.2, hof]
theorem text_inj {s d : List Int} (hs : s.length = 16) (hd : d.length = 16) (vs : AllB s) (vd : AllB d) : (strL (textL s)).toList = (strL (textL d)).toList ↔ s = d := by
  constructor
  · intro h
    have e : textL s = textL d := by
      rw [ByteArray.toList_eq, ByteArray.toList_eq] at h
      simpa [strL] using h
    have h1 := read_text hs vs
    rw [e, read_text hd vd] at h1
    exact (Option.some.inj h1).symm
  · intro h; rw [h]
end Go.Proofs.YtcdeabiellefcaaDoor
