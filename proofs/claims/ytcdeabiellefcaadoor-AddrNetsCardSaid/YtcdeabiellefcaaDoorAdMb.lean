/- Plain mathematics of layer 3: the code reads what the document reads, and an address is read from its text. No condition. -/
import Derived.Test.YtcdeabiellefcaaDoorAdMa
namespace Go.Proofs.YtcdeabiellefcaaDoor

/-- the numbers of groups, the letters g ahead -/
def parse : List UInt8 → List UInt8 → Option (List Int)
  | g, [] => (rdG g).map fun n => [(n : Int)]
  | g, b :: r => if b.toNat = 58 then (match rdG g with
    | none => none
    | some n => (parse [] r).map ((n : Int) :: ·)) else parse (g ++ [b]) r
def cols : List UInt8 → Nat
  | [] => 0
  | b :: r => (if b.toNat = 58 then 1 else 0) + cols r
theorem cols_le (l : List UInt8) : cols l ≤ l.length := by
  induction l with
  | nil => exact Nat.le_refl _
  | cons b r ih => rw [cols, List.length_cons]; split <;> omega
theorem digV_58 : digV 58 = none := by decide

/-- letters that no more letters make a group -/
def Bad (g : List UInt8) : Prop := ∀ t, rdG (g ++ t) = none
theorem rdAcc_append (g t : List UInt8) : ∀ n, rdAcc n (g ++ t) = (rdAcc n g).bind fun m => rdAcc m t := by
  induction g with
  | nil => intro n; rfl
  | cons b r ih =>
    intro n
    rw [List.cons_append, rdAcc, rdAcc]
    cases digV b.toNat with
    | none => rfl
    | some d => exact ih _
theorem bad_long {g : List UInt8} (h : 4 < g.length) : Bad g := fun t => by
  unfold rdG
  rw [if_pos (.inr (by rw [List.length_append]; omega))]
theorem bad_letter {g : List UInt8} {b : UInt8} (h : digV b.toNat = none) : Bad (g ++ [b]) := fun t => by
  unfold rdG
  split
  · rfl
  · rw [rdAcc_append, rdAcc_append]
    cases rdAcc 0 g with
    | none => rfl
    | some n => show ((rdAcc n [b]).bind _) = none; rw [rdAcc, h]; rfl
theorem parse_bad : ∀ (r g : List UInt8), Bad g → parse g r = none
  | [], g, h => by
    rw [parse]
    have := h []
    rw [List.append_nil] at this
    rw [this]; rfl
  | b :: r, g, h => by
    rw [parse]
    have h0 := h []
    rw [List.append_nil] at h0
    split
    · rw [h0]
    · exact parse_bad r (g ++ [b]) (fun t => by rw [List.append_assoc]; exact h _)

theorem rdG_some {g : List UInt8} {n : Nat} (h0 : 0 < g.length) (h4 : g.length ≤ 4) (h : rdAcc 0 g = some n) : rdG g = some n := by
  unfold rdG
  rw [if_neg (fun k => by
    rcases k with k | k
    · rw [k] at h0; exact absurd h0 (by simp)
    · omega), h]

theorem scan_parse : ∀ (l g : List UInt8) (n long : Nat) (out : List Int), g.length = long → long ≤ 4 → rdAcc 0 g = some n → ¬ (long = 0 ∧ l = []) → scanG n long out l = (parse g l).map (out ++ ·)
  | [], g, n, long, out, hl, h4, hr, hne => by
    have h0 : ¬ long = 0 := fun h => hne ⟨h, rfl⟩
    rw [scanG, if_neg h0, parse, rdG_some (by omega) (by omega) hr]
    rfl
  | b :: r, g, n, long, out, hl, h4, hr, hne => by
    rw [scanG, parse]
    by_cases h58 : b.toNat = 58
    · rw [if_pos h58, if_pos h58]
      by_cases h0 : long = 0
      · rw [if_pos (.inl h0)]
        have : g = [] := List.eq_nil_of_length_eq_zero (by omega)
        subst this
        rfl
      · rw [rdG_some (by omega) (by omega) hr]
        by_cases hr0 : r = []
        · rw [if_pos (.inr hr0), hr0]
          rfl
        · rw [if_neg (fun k => k.elim h0 hr0), scan_parse r [] 0 0 (out ++ [(n : Int)]) rfl (by omega) rfl (fun k => hr0 k.2)]
          simp only [Option.map_map]
          congr 1
          funext x
          simp
    · rw [if_neg h58, if_neg h58]
      cases hd : digV b.toNat with
      | none => rw [parse_bad r (g ++ [b]) (bad_letter hd)]; rfl
      | some d =>
        by_cases hl4 : long = 4
        · rw [parse_bad r (g ++ [b]) (bad_long (by simp; omega))]
          exact if_pos hl4
        · have h1 : rdAcc 0 (g ++ [b]) = some (n * 16 + d) := by
            rw [rdAcc_append, hr]
            show rdAcc n [b] = _
            rw [rdAcc, hd]; rfl
          rw [← scan_parse r (g ++ [b]) (n * 16 + d) (long + 1) out (by simp; omega) (by omega) h1 (fun k => by omega)]
          exact if_neg hl4
theorem scan_is (l : List UInt8) (h : l ≠ []) : scanG 0 0 [] l = parse [] l := by
  rw [scan_parse l [] 0 0 [] rfl (by omega) rfl (fun k => h k.2)]
  simp
theorem parse_length : ∀ (l g : List UInt8) (xs : List Int), parse g l = some xs → xs.length = cols l + 1
  | [], g, xs, h => by
    rw [parse] at h
    cases hq : rdG g with
    | none => rw [hq] at h; cases h
    | some n => rw [hq] at h; obtain rfl : [(n : Int)] = xs := Option.some.inj h; rfl
  | b :: r, g, xs, h => by
    rw [parse] at h
    rw [cols]
    split at h
    · rename_i h58
      rw [if_pos h58]
      cases hq : rdG g with
      | none => rw [hq] at h; cases h
      | some n =>
        rw [hq] at h
        cases hp : parse [] r with
        | none => rw [hp] at h; cases h
        | some ys =>
          rw [hp] at h
          obtain rfl : (n : Int) :: ys = xs := Option.some.inj h
          have := parse_length r [] ys hp
          rw [List.length_cons]; omega
    · rename_i h58
      rw [if_neg h58]
      have := parse_length r (g ++ [b]) xs h
      omega

/-- a text ahead of its first colon, and what is behind it -/
theorem parse_free : ∀ (p g r : List UInt8), cols p = 0 → parse g (p ++ r) = parse (g ++ p) r
  | [], g, r, _ => by rw [List.nil_append, List.append_nil]
  | b :: p, g, r, h => by
    rw [cols] at h
    have h58 : ¬ b.toNat = 58 := fun k => by rw [if_pos k] at h; omega
    rw [List.cons_append, parse, if_neg h58, parse_free p (g ++ [b]) r (by rw [if_neg h58] at h; omega), List.append_assoc]
    rfl
theorem cols_append (p r : List UInt8) : cols (p ++ r) = cols p + cols r := by
  induction p with
  | nil => simp [cols]
  | cons b p ih => rw [List.cons_append, cols, cols, ih]; omega
theorem rdG_cols {g : List UInt8} (h : 0 < cols g) : rdG g = none := by
  have key : ∀ (g : List UInt8) n, 0 < cols g → rdAcc n g = none := fun g => by
    induction g with
    | nil => intro n h; exact absurd h (by decide)
    | cons b r ih =>
      intro n h
      rw [rdAcc]
      by_cases h58 : b.toNat = 58
      · rw [h58, digV_58]
      · rw [cols, if_neg h58] at h
        cases digV b.toNat with
        | none => rfl
        | some d => exact ih _ (by omega)
  unfold rdG
  split
  · rfl
  · exact key g 0 h
theorem parts_at : ∀ (l : List UInt8), (cols l = 0 ∧ Lib.index l [58] = -1) ∨ ∃ p r, l = p ++ 58 :: r ∧ cols p = 0 ∧ Lib.index l [58] = (p.length : Int) := by
  intro l
  by_cases h : cols l = 0
  · refine .inl ⟨h, Lib.index_none fun j _ => ?_⟩
    cases hq : Lib.occAt l [58] j with
    | false => rfl
    | true =>
      obtain ⟨t, ht⟩ := List.isPrefixOf_iff_prefix.1 hq
      have e : l = l.take j ++ (58 :: t) := by
        have := List.take_append_drop j l
        rw [← ht] at this
        exact this.symm
      rw [e, cols_append, cols] at h
      simp at h
  · have key : ∀ l : List UInt8, 0 < cols l → ∃ p r, l = p ++ 58 :: r ∧ cols p = 0 := fun l => by
      induction l with
      | nil => intro h; exact absurd h (by decide)
      | cons b r ih =>
        intro h
        by_cases h58 : b.toNat = 58
        · exact ⟨[], r, by rw [show b = 58 from UInt8.toNat_inj.1 h58]; rfl, rfl⟩
        · rw [cols, if_neg h58] at h
          obtain ⟨p, r', rfl, hp⟩ := ih (by omega)
          exact ⟨b :: p, r', rfl, by rw [cols, if_neg h58, hp]⟩
    obtain ⟨p, r, rfl, hp⟩ := key l (by omega)
    refine .inr ⟨p, r, rfl, hp, Lib.index_first (by simp) ?_ fun j hj => ?_⟩
    · unfold Lib.occAt
      rw [List.drop_left']
      · rfl
      · rfl
    · cases hq : Lib.occAt (p ++ 58 :: r) [58] j with
      | false => rfl
      | true =>
        have := Lib.occAt_head rfl hq
        rw [List.getElem?_append_left hj] at this
        have hm : (58 : UInt8) ∈ p := List.mem_of_getElem? this
        obtain ⟨x, y, rfl⟩ := List.append_of_mem hm
        rw [cols_append, cols] at hp
        simp at hp
theorem split_parse : ∀ (k : Nat) (l : List UInt8), rdList (Lib.splitK [58] 0 k l) = if cols l ≤ k then parse [] l else none
  | 0, l => by
    rw [Lib.splitK, rdList]
    by_cases h : cols l = 0
    · rw [if_pos (by omega)]
      have := parse_free l [] [] h
      rw [List.append_nil, List.nil_append] at this
      rw [this, parse]
      cases rdG l <;> rfl
    · rw [if_neg (by omega), rdG_cols (by omega)]
  | k + 1, l => by
    rcases parts_at l with ⟨h, hi⟩ | ⟨p, r, rfl, hp, hi⟩
    · rw [Lib.splitK, hi, if_pos (by rfl), if_pos (by omega), rdList]
      have := parse_free l [] [] h
      rw [List.append_nil, List.nil_append] at this
      rw [this, parse]
      cases rdG l <;> rfl
    · have hne : ¬ (((p.length : Int) == -1) = true) := by simp
      rw [Lib.splitK, hi, if_neg hne, Int.toNat_natCast, Nat.add_zero]
      have e1 : (p ++ 58 :: r).take p.length = p := List.take_left' rfl
      have e2 : (p ++ 58 :: r).drop (p.length + ([58] : List UInt8).length) = r := by
        rw [show p.length + ([58] : List UInt8).length = (p ++ [58]).length by simp, show p ++ 58 :: r = (p ++ [58]) ++ r by simp]
        exact List.drop_left' rfl
      rw [e1, e2, rdList, split_parse k r, parse_free p [] _ hp, List.nil_append, parse, if_pos (show (58 : UInt8).toNat = 58 from rfl), cols_append, cols, hp, if_pos (show (58 : UInt8).toNat = 58 from rfl)]
      cases rdG p with
      | none =>
        show none = _
        by_cases hc : 0 + (1 + cols r) ≤ k + 1
        · rw [if_pos hc]
        · rw [if_neg hc]
      | some n =>
        by_cases hc : cols r ≤ k
        · rw [if_pos hc, if_pos (by omega)]
        · rw [if_neg hc, if_neg (by omega)]; rfl
theorem groups_is (l : List UInt8) (h : l ≠ []) : rdGroups l = if cols l ≤ 8 then parse [] l else none := by
  unfold rdGroups Lib.splitN
  rw [if_neg h, split_parse]
  have := cols_le l
  have hl : 0 < l.length := List.length_pos_iff.2 h
  by_cases hc : cols l ≤ 8
  · rw [if_pos hc, if_pos (by omega)]
  · rw [if_neg hc, if_neg (by omega)]
theorem groups_scan (l : List UInt8) : rdGroups l = scanG 0 0 [] l ∨ (rdGroups l = none ∧ ∀ xs, scanG 0 0 [] l = some xs → 9 < xs.length) := by
  by_cases h : l = []
  · subst h; exact .inl rfl
  · rw [groups_is l h, scan_is l h]
    by_cases hc : cols l ≤ 8
    · rw [if_pos hc]; exact .inl rfl
    · rw [if_neg hc]
      exact .inr ⟨rfl, fun xs hx => by have := parse_length l [] xs hx; omega⟩
theorem read_same (l : List UInt8) : readL l = rreadL l := by
  unfold readL rreadL
  have hfalse : (Lib.cut l [58, 58]).2.2 = false → (Lib.cut l [58, 58]).2.1 = [] := by
    unfold Lib.cut
    split
    · intro h; cases h
    · intro _; rfl
  generalize (Lib.cut l [58, 58]).1 = l1 at *
  generalize (Lib.cut l [58, 58]).2.1 = l2 at *
  generalize (Lib.cut l [58, 58]).2.2 = sh at *
  cases sh with
  | true =>
    unfold readP rreadP
    rw [if_pos rfl]
    rcases groups_scan l1 with h1 | ⟨h1, h1'⟩ <;> rcases groups_scan l2 with h2 | ⟨h2, h2'⟩
    · rw [h1, h2]
      cases scanG 0 0 [] l1 with
      | none => rfl
      | some x =>
        cases scanG 0 0 [] l2 with
        | none => rfl
        | some y => simp
    · rw [h2]
      cases hq : scanG 0 0 [] l2 with
      | none => rw [h1]; cases scanG 0 0 [] l1 <;> rfl
      | some y =>
        have := h2' y hq
        rw [h1]
        cases scanG 0 0 [] l1 with
        | none => rfl
        | some x => exact (if_neg (by omega)).symm
    · rw [h1]
      cases hq : scanG 0 0 [] l1 with
      | none => rfl
      | some x =>
        have := h1' x hq
        cases scanG 0 0 [] l2 with
        | none => rfl
        | some y => exact (if_neg (by omega)).symm
    · rw [h1]
      cases hq : scanG 0 0 [] l1 with
      | none => rfl
      | some x =>
        have := h1' x hq
        cases scanG 0 0 [] l2 with
        | none => rfl
        | some y => exact (if_neg (by omega)).symm
  | false =>
    obtain rfl := hfalse rfl
    unfold readP rreadP
    rw [if_neg (by decide), show rdGroups [] = some [] from rfl]
    rcases groups_scan l1 with h1 | ⟨h1, h1'⟩
    · rw [h1]
      cases scanG 0 0 [] l1 with
      | none => rfl
      | some x =>
        by_cases h8 : x.length = 8
        · simp [h8]
        · simp [h8]
    · rw [h1]
      cases hq : scanG 0 0 [] l1 with
      | none => rfl
      | some x =>
        have := h1' x hq
        exact (if_neg (by omega)).symm
end Go.Proofs.YtcdeabiellefcaaDoor
