/- Stage 23: lists by turns and a map, as numbers: which ids a list has, what the map reads as; what going on by one tick tells and leaves. No program here; no condition. -/
import Derived.Test.YthbboiolhejmmaaWhA
import Derived.Test.YthbboiolhejmmaaIm
import Derived.Test.YthbboiolhejmmaaPiA
set_option maxRecDepth 100000
namespace Go.Proofs.Ythbboiolhejmmaa
open Go.RowKit Go.Maps
set_option linter.unusedVariables false

/-- when an id is due; 0, where it is not there -/
def whenW : List (Int × Int) → Int → Int
  | [], _ => 0
  | p :: r, k => if p.1 = k then p.2 else whenW r k
theorem whenW_no : ∀ {l : List (Int × Int)} {k : Int}, hasS l k = false → whenW l k = 0
  | [], _, _ => rfl
  | p :: r, k, h => by
    unfold hasS at h
    rw [List.any_cons, Bool.or_eq_false_iff] at h
    have h1 : ¬ p.1 = k := by simpa using h.1
    unfold whenW
    rw [if_neg h1]
    exact whenW_no h.2
theorem whenW_mem : ∀ {l : List (Int × Int)} {k : Int}, hasS l k = true → (k, whenW l k) ∈ l
  | [], _, h => by cases h
  | p :: r, k, h => by
    unfold whenW
    by_cases h1 : p.1 = k
    · rw [if_pos h1, ← h1]
      exact List.mem_cons_self
    · rw [if_neg h1]
      unfold hasS at h
      rw [List.any_cons] at h
      have h2 : (p.1 == k) = false := by simpa using h1
      rw [h2, Bool.false_or] at h
      exact List.mem_cons_of_mem _ (whenW_mem h)
theorem whenW_eq : ∀ {l : List (Int × Int)} {k a : Int}, (l.map (·.1)).Nodup → (k, a) ∈ l → whenW l k = a
  | p :: r, k, a, hn, h => by
    rw [List.map_cons, List.nodup_cons] at hn
    unfold whenW
    rcases List.mem_cons.1 h with h | h
    · subst h
      exact if_pos rfl
    · have h1 : ¬ p.1 = k := fun e => hn.1 (List.mem_map.2 ⟨_, h, e.symm⟩)
      rw [if_neg h1]
      exact whenW_eq hn.2 h
theorem whenW_out : ∀ {l : List (Int × Int)} {k x : Int}, x ≠ k → whenW (outS l k) x = whenW l x
  | [], _, _, _ => rfl
  | p :: r, k, x, h => by
    have ih := whenW_out (l := r) h
    unfold outS at ih ⊢
    rw [List.filter_cons]
    by_cases h1 : p.1 = k
    · have h2 : (p.1 != k) = false := by simpa using h1
      rw [h2]
      have h3 : ¬ p.1 = x := fun e => h (e.symm.trans h1)
      show whenW (List.filter _ r) x = _
      rw [ih]
      conv => rhs; unfold whenW
      rw [if_neg h3]
    · have h2 : (p.1 != k) = true := by simpa using h1
      rw [h2]
      show whenW (p :: List.filter _ r) x = _
      unfold whenW
      rw [ih]
theorem whenW_snoc : ∀ {l : List (Int × Int)} {k a x : Int}, whenW (l ++ [(k, a)]) x = if hasS l x = true then whenW l x else if k = x then a else 0
  | [], k, a, x => by
    show (if k = x then a else 0) = _
    rw [show hasS [] x = false from rfl]
    simp
  | p :: r, k, a, x => by
    have ih := whenW_snoc (l := r) (k := k) (a := a) (x := x)
    show (if p.1 = x then p.2 else whenW (r ++ [(k, a)]) x) = if hasS (p :: r) x = true then (if p.1 = x then p.2 else whenW r x) else _
    by_cases h1 : p.1 = x
    · have h2 : hasS (p :: r) x = true := by unfold hasS; simp [h1]
      rw [if_pos h1, if_pos h2, if_pos h1]
    · have h2 : hasS (p :: r) x = hasS r x := by
        unfold hasS
        rw [List.any_cons, show (p.1 == x) = false by simpa using h1, Bool.false_or]
      rw [if_neg h1, h2, if_neg h1]
      exact ih
theorem hasS_out (l : List (Int × Int)) (k x : Int) : hasS (outS l k) x = (hasS l x && x != k) := by
  rw [Bool.eq_iff_iff, hasS_iff, Bool.and_eq_true, hasS_iff]
  unfold outS
  constructor
  · rintro ⟨v, hv⟩
    obtain ⟨h1, h2⟩ := List.mem_filter.1 hv
    exact ⟨⟨v, h1⟩, h2⟩
  · rintro ⟨⟨v, hv⟩, h⟩
    exact ⟨v, List.mem_filter.2 ⟨hv, h⟩⟩
theorem hasS_snoc (l : List (Int × Int)) (k a x : Int) : hasS (l ++ [(k, a)]) x = (hasS l x || k == x) := by
  unfold hasS
  rw [List.any_append]
  simp
theorem outS_length {l : List (Int × Int)} {k : Int} (hn : (l.map (·.1)).Nodup) (h : hasS l k = true) : (outS l k).length + 1 = l.length := by
  have h1 := (setS_perm (v := 0) hn h).length_eq
  have h2 : (setS l k 0).length = l.length := by unfold setS; simp
  rw [h2] at h1
  simpa using h1.symm

/-- what a map of ints reads as -/
structure MapW (D : DataW Unit) (l : List (Int × Int)) : Prop where
  has : ∀ x, Maps.has D (.int .i64 x) = hasS l x
  at_ : ∀ x, D.atKey (.int .i64 x) (.lit (.int .i64 0)) = .lit (.int .i64 (whenW l x))
  size : Maps.size D = l.length
theorem litW_ne {x k : Int} (h : x ≠ k) : Lit.int .i64 x ≠ Lit.int .i64 k := fun e => h (by injection e)
theorem MapW.nil : MapW (.map []) [] := ⟨fun _ => rfl, fun _ => rfl, rfl⟩
theorem MapW.del {D : DataW Unit} {l : List (Int × Int)} (h : MapW D l) (ht : Tidy D) (hn : (l.map (·.1)).Nodup) {k : Int} (hk : hasS l k = true) : MapW (D.del (.int .i64 k)) (outS l k) := by
  refine ⟨fun x => ?_, fun x => ?_, ?_⟩
  · rw [hasS_out]
    by_cases e : x = k
    · rw [e, has_del_same]
      simp
    · rw [has_del_other (litW_ne e), h.has]
      simp [e]
  · by_cases e : x = k
    · rw [e, atKey_del_same, whenW_no (by rw [hasS_out]; simp)]
    · rw [atKey_del_other (litW_ne e), h.at_, whenW_out e]
  · have h1 := size_del (k := .int .i64 k) ht
    rw [h.has, hk, h.size] at h1
    have h2 := outS_length hn hk
    simp at h1
    omega
theorem MapW.put {D : DataW Unit} {l : List (Int × Int)} (h : MapW D l) (ht : Tidy D) (hi : IsMap D) {k a : Int} (hk : hasS l k = false) : MapW (D.put (.int .i64 k) (.lit (.int .i64 a))) (l ++ [(k, a)]) := by
  refine ⟨fun x => ?_, fun x => ?_, ?_⟩
  · rw [hasS_snoc]
    by_cases e : x = k
    · rw [e, has_put_same hi (show WideAt.IsKeyLit (.int .i64 k) from trivial)]
      simp
    · rw [has_put_other (litW_ne e), h.has]
      have : (k == x) = false := by simpa using fun e2 => e e2.symm
      rw [this, Bool.or_false]
  · rw [whenW_snoc]
    by_cases e : x = k
    · rw [e, atKey_put_same hi (show WideAt.IsKeyLit (.int .i64 k) from trivial), hk]
      simp
    · rw [atKey_put_other (litW_ne e), h.at_, if_neg (show ¬ k = x from fun e2 => e e2.symm)]
      cases hc : hasS l x
      · rw [whenW_no hc]
        rfl
      · rfl
  · rw [size_put ht, h.has, hk, h.size]
    simp

/-- what is kept, whatever the tick -/
structure KeepW (l : List (Int × Int)) : Prop where
  keys : (l.map (·.1)).Nodup
  ids : ∀ p ∈ l, 0 ≤ p.1 ∧ p.1 < 256
  ats : ∀ p ∈ l, 0 ≤ p.2 ∧ p.2 ≤ 9223372036854775807
theorem RightW.kept {now : Int} {l : List (Int × Int)} (h : RightW now l) (h0 : 0 ≤ now) : KeepW l := ⟨h.keys, h.ids, fun p hp => by have := h.ats p hp; omega⟩
theorem KeepW.nil : KeepW [] := ⟨List.nodup_nil, (fun _ h => by cases h), (fun _ h => by cases h)⟩
theorem KeepW.out {l : List (Int × Int)} (h : KeepW l) (id : Int) : KeepW (outS l id) :=
  ⟨keys_out id h.keys, fun p hp => h.ids p (List.mem_filter.1 hp).1, fun p hp => h.ats p (List.mem_filter.1 hp).1⟩
theorem KeepW.snoc {l : List (Int × Int)} (h : KeepW l) {id a : Int} (hk : hasS l id = false) (h0 : 0 ≤ id) (h1 : id < 256) (ha0 : 0 ≤ a) (ha1 : a ≤ 9223372036854775807) : KeepW (l ++ [(id, a)]) := by
  refine ⟨?_, fun p hp => ?_, fun p hp => ?_⟩
  · rw [List.map_append, List.nodup_append]
    refine ⟨h.keys, by simp, fun x hx y hy e => ?_⟩
    obtain ⟨p, hp, rfl⟩ := List.mem_map.1 hx
    have hy : y = id := by simpa using hy
    have h2 : hasS l id = true := hasS_iff.2 ⟨p.2, by rw [← hy, ← e]; exact hp⟩
    rw [hk] at h2
    cases h2
  · rcases List.mem_append.1 hp with hp | hp
    · exact h.ids p hp
    · rw [List.mem_singleton.1 hp]
      exact ⟨h0, h1⟩
  · rcases List.mem_append.1 hp with hp | hp
    · exact h.ats p hp
    · rw [List.mem_singleton.1 hp]
      exact ⟨ha0, ha1⟩
theorem whenW_ok {l : List (Int × Int)} (h : KeepW l) (k : Int) : 0 ≤ whenW l k ∧ whenW l k ≤ 9223372036854775807 := by
  cases hc : hasS l k
  · rw [whenW_no hc]
    omega
  · exact h.ats _ (whenW_mem hc)
/-- in which list a tick's ids are -/
def slotW (a : Int) : Nat := (a % 64).toNat
theorem slotW_lt (a : Int) : slotW a < 64 := by unfold slotW; omega
/-- the lists: each has just the ids that are due at its ticks, each once -/
structure TellW (xs : List (List Int)) (l : List (Int × Int)) : Prop where
  len : xs.length = 64
  nd : ∀ i, i < 64 → (xs.getD i []).Nodup
  mem : ∀ i, i < 64 → ∀ x, x ∈ xs.getD i [] ↔ hasS l x = true ∧ slotW (whenW l x) = i
theorem getD_setW (xs : List (List Int)) (i j : Nat) (v : List Int) (hi : i < xs.length) : (xs.set i v).getD j [] = if j = i then v else xs.getD j [] := by
  by_cases e : j = i
  · rw [if_pos e, e]
    simp [List.getD, hi]
  · rw [if_neg e]
    simp [List.getD, Ne.symm e]
theorem TellW.nil : TellW (List.replicate 64 []) [] := by
  have e : ∀ i, (List.replicate 64 ([] : List Int)).getD i [] = [] := fun i => by
    unfold List.getD
    rw [List.getElem?_replicate]
    split <;> rfl
  refine ⟨by simp, fun i _ => by rw [e]; exact List.nodup_nil, fun i _ x => ?_⟩
  rw [e]
  simp [hasS]
theorem TellW.out {xs : List (List Int)} {l : List (Int × Int)} (h : TellW xs l) {id : Int} (hk : hasS l id = true) : TellW (xs.set (slotW (whenW l id)) ((xs.getD (slotW (whenW l id)) []).filter fun x => !(x == id))) (outS l id) := by
  have hs := slotW_lt (whenW l id)
  have hm : ∀ x, hasS (outS l id) x = true ↔ hasS l x = true ∧ x ≠ id := fun x => by rw [hasS_out, Bool.and_eq_true]; simp
  refine ⟨by rw [List.length_set]; exact h.len, fun i hi => ?_, fun i hi x => ?_⟩
  · rw [getD_setW _ _ _ _ (by rw [h.len]; exact hs)]
    split
    · exact (h.nd _ hs).filter _
    · exact h.nd i hi
  · rw [getD_setW _ _ _ _ (by rw [h.len]; exact hs), hm]
    by_cases e : i = slotW (whenW l id)
    · rw [if_pos e, List.mem_filter, h.mem _ hs]
      constructor
      · rintro ⟨⟨h1, h2⟩, h3⟩
        have h3 : x ≠ id := by simpa using h3
        exact ⟨⟨h1, h3⟩, by rw [whenW_out h3, e]; exact h2⟩
      · rintro ⟨⟨h1, h3⟩, h2⟩
        rw [whenW_out h3, e] at h2
        exact ⟨⟨h1, h2⟩, by simpa using h3⟩
    · rw [if_neg e, h.mem i hi]
      constructor
      · rintro ⟨h1, h2⟩
        have h3 : x ≠ id := fun e2 => e (by rw [← h2, e2])
        exact ⟨⟨h1, h3⟩, by rw [whenW_out h3]; exact h2⟩
      · rintro ⟨⟨h1, h3⟩, h2⟩
        rw [whenW_out h3] at h2
        exact ⟨h1, h2⟩
theorem TellW.put {xs : List (List Int)} {l : List (Int × Int)} (h : TellW xs l) {id a : Int} (hk : hasS l id = false) : TellW (xs.set (slotW a) (xs.getD (slotW a) [] ++ [id])) (l ++ [(id, a)]) := by
  have hs := slotW_lt a
  have hid : ∀ i, i < 64 → id ∉ xs.getD i [] := fun i hi hc => by
    have := ((h.mem i hi id).1 hc).1
    rw [hk] at this
    cases this
  refine ⟨by rw [List.length_set]; exact h.len, fun i hi => ?_, fun i hi x => ?_⟩
  · rw [getD_setW _ _ _ _ (by rw [h.len]; exact hs)]
    split
    · rw [List.nodup_append]
      exact ⟨h.nd _ hs, by simp, fun x hx y hy e => hid _ hs (by have hy : y = id := by simpa using hy
                                                                 rw [← hy, ← e]; exact hx)⟩
    · exact h.nd i hi
  · rw [getD_setW _ _ _ _ (by rw [h.len]; exact hs), hasS_snoc, whenW_snoc]
    by_cases e2 : x = id
    · rw [e2, hk]
      by_cases e : i = slotW a
      · rw [if_pos e]
        simp [e]
      · rw [if_neg e]
        constructor
        · intro h1
          exact absurd h1 (hid i hi)
        · rintro ⟨_, h2⟩
          rw [if_neg (by simp), if_pos rfl] at h2
          exact absurd h2.symm e
    · have h3 : (id == x) = false := by simpa using fun e3 => e2 e3.symm
      rw [h3, Bool.or_false]
      by_cases e : i = slotW a
      · rw [if_pos e, List.mem_append, h.mem _ hs, e]
        constructor
        · rintro (⟨h1, h2⟩ | h1)
          · exact ⟨h1, by rw [if_pos h1]; exact h2⟩
          · exact absurd (List.mem_singleton.1 h1) e2
        · rintro ⟨h1, h2⟩
          rw [if_pos h1] at h2
          exact .inl ⟨h1, h2⟩
      · rw [if_neg e, h.mem i hi]
        constructor
        · rintro ⟨h1, h2⟩
          exact ⟨h1, by rw [if_pos h1]; exact h2⟩
        · rintro ⟨h1, h2⟩
          rw [if_pos h1] at h2
          exact ⟨h1, h2⟩
/-- a list's ids that are due -/
def toldW (l : List (Int × Int)) (now : Int) (ys : List Int) : List Int := ys.filter fun x => decide (whenW l x = now)
theorem toldW_step (l : List (Int × Int)) (now : Int) (ys : List Int) (i : Nat) (h : i < ys.length) : toldW l now (ys.take (i + 1)) = if whenW l (ys.getD i 0) = now then toldW l now (ys.take i) ++ [ys.getD i 0] else toldW l now (ys.take i) := by
  have e : ys.getD i 0 = ys[i] := by simp [List.getD, h]
  unfold toldW
  rw [List.take_succ_eq_append_getElem h, List.filter_append, e]
  by_cases h2 : whenW l ys[i] = now
  · simp [h2]
  · simp [h2]
/-- so many taken out -/
def outsW (l : List (Int × Int)) (ids : List Int) : List (Int × Int) := ids.foldl outS l
theorem outsW_snoc (l : List (Int × Int)) (ids : List Int) (x : Int) : outsW l (ids ++ [x]) = outS (outsW l ids) x := by simp [outsW, List.foldl_append]
theorem outsW_eq : ∀ (ids : List Int) (l : List (Int × Int)), outsW l ids = l.filter fun p => !ids.contains p.1
  | [], l => (List.filter_eq_self.2 fun _ _ => rfl).symm
  | x :: r, l => by
    show outsW (outS l x) r = _
    rw [outsW_eq r]
    unfold outS
    rw [List.filter_filter]
    congr 1
    funext p
    by_cases h : p.1 = x <;> simp [h]
theorem outsW_has (l : List (Int × Int)) (ids : List Int) (x : Int) : hasS (outsW l ids) x = (hasS l x && !ids.contains x) := by
  rw [outsW_eq, Bool.eq_iff_iff, hasS_iff, Bool.and_eq_true, hasS_iff]
  constructor
  · rintro ⟨v, hv⟩
    obtain ⟨h1, h2⟩ := List.mem_filter.1 hv
    exact ⟨⟨v, h1⟩, h2⟩
  · rintro ⟨⟨v, hv⟩, h⟩
    exact ⟨v, List.mem_filter.2 ⟨hv, h⟩⟩
section
variable {xs : List (List Int)} {l : List (Int × Int)} {now : Int}
/-- who is told -/
theorem told_mem (h : TellW xs l) (hr : RightW now l) (x : Int) : x ∈ toldW l (now + 1) (xs.getD (slotW (now + 1)) []) ↔ (x, now + 1) ∈ l := by
  unfold toldW
  rw [List.mem_filter, h.mem _ (slotW_lt _)]
  constructor
  · rintro ⟨⟨h1, _⟩, h2⟩
    have h2 : whenW l x = now + 1 := by simpa using h2
    rw [← h2]
    exact whenW_mem h1
  · intro hm
    have e := whenW_eq hr.keys hm
    exact ⟨⟨hasS_iff.2 ⟨_, hm⟩, by rw [e]⟩, by simp [e]⟩
theorem told_nodup (h : TellW xs l) : (toldW l (now + 1) (xs.getD (slotW (now + 1)) [])).Nodup := (h.nd _ (slotW_lt _)).filter _
theorem told_out (h : TellW xs l) (hr : RightW now l) : outsW l (toldW l (now + 1) (xs.getD (slotW (now + 1)) [])) = restW l (now + 1) := by
  rw [outsW_eq]
  unfold restW
  refine List.filter_congr fun p hp => ?_
  rw [Bool.eq_iff_iff]
  simp only [Bool.not_eq_true', decide_eq_true_eq]
  have hg := hr.ats p hp
  constructor
  · intro hc
    rcases Int.lt_or_le (now + 1) p.2 with h1 | h1
    · exact h1
    · have e : p.2 = now + 1 := by omega
      have h2 := (told_mem h hr p.1).2 (by rw [← e]; exact hp)
      have h3 := List.contains_iff_mem.2 h2
      rw [hc] at h3
      cases h3
  · intro hlt
    cases hc : (toldW l (now + 1) (xs.getD (slotW (now + 1)) [])).contains p.1
    · rfl
    · have h2 := (told_mem h hr p.1).1 (List.contains_iff_mem.1 hc)
      have e1 := whenW_eq hr.keys h2
      have e2 := whenW_eq hr.keys (show (p.1, p.2) ∈ l from hp)
      omega
end
theorem upW_mem {l : List (Int × Int)} {now x : Int} : ∀ {k : Nat}, x ∈ upW l now k ↔ (0 ≤ x ∧ x < k ∧ ∃ a, (x, a) ∈ l ∧ a ≤ now)
  | 0 => by
    constructor
    · intro h
      cases h
    · rintro ⟨h1, h2, _⟩
      omega
  | k + 1 => by
    unfold upW
    rw [List.mem_append, upW_mem]
    have h1 : x ∈ oneW l now k ↔ x = k ∧ ∃ a, (x, a) ∈ l ∧ a ≤ now := by
      unfold oneW
      rw [List.mem_map]
      constructor
      · rintro ⟨p, hp, rfl⟩
        obtain ⟨h1, h2⟩ := List.mem_filter.1 hp
        simp only [Bool.and_eq_true, beq_iff_eq, decide_eq_true_eq] at h2
        exact ⟨rfl, p.2, by rw [← h2.1]; exact h1, h2.2⟩
      · rintro ⟨rfl, a, h1, h2⟩
        exact ⟨(_, a), List.mem_filter.2 ⟨h1, by simp [h2]⟩, rfl⟩
    rw [h1]
    constructor
    · rintro (⟨h1, h2, h3⟩ | ⟨h1, h3⟩)
      · exact ⟨h1, by omega, h3⟩
      · exact ⟨by omega, by omega, h3⟩
    · rintro ⟨h1, h2, h3⟩
      by_cases e : x = k
      · exact .inr ⟨e, h3⟩
      · exact .inl ⟨h1, by omega, h3⟩
theorem oneW_short {now id : Int} : ∀ {l : List (Int × Int)}, (l.map (·.1)).Nodup → (oneW l now id).length ≤ 1
  | [], _ => by simp [oneW]
  | p :: r, hn => by
    rw [List.map_cons, List.nodup_cons] at hn
    have ih := oneW_short (now := now) (id := id) hn.2
    unfold oneW at ih ⊢
    rw [List.filter_cons]
    split
    · rename_i h
      simp only [Bool.and_eq_true, beq_iff_eq] at h
      have e : (r.filter fun p => p.1 == id && decide (p.2 ≤ now)) = [] := List.filter_eq_nil_iff.2 fun q hq => by
        have : ¬ q.1 = id := fun e => hn.1 (List.mem_map.2 ⟨q, hq, e.trans h.1.symm⟩)
        simp [this]
      rw [e]
      simp
    · exact ih
theorem upW_rise {l : List (Int × Int)} {now : Int} (hn : (l.map (·.1)).Nodup) : ∀ k : Nat, RiseI (upW l now k)
  | 0 => List.Pairwise.nil
  | k + 1 => by
    unfold upW RiseI
    rw [List.pairwise_append]
    refine ⟨upW_rise hn k, ?_, fun x hx y hy => ?_⟩
    · have h1 := oneW_short (now := now) (id := k) hn
      generalize oneW l now k = m at h1
      match m, h1 with
      | [], _ => exact List.Pairwise.nil
      | [_], _ => exact List.pairwise_singleton _ _
    · rw [oneW_all hy]
      exact (upW_mem.1 hx).2.1
/-- what is told, in order -/
theorem told_due {xs : List (List Int)} {l : List (Int × Int)} {now : Int} (h : TellW xs l) (hr : RightW now l) : (toldW l (now + 1) (xs.getD (slotW (now + 1)) [])).mergeSort (fun x y => decide (x ≤ y)) = dueW l (now + 1) := by
  have hm := told_mem h hr
  have hn := told_nodup (now := now) h
  generalize toldW l (now + 1) (xs.getD (slotW (now + 1)) []) = ys at *
  have hp := List.mergeSort_perm ys (fun x y => decide (x ≤ y))
  have h1 : RiseI (ys.mergeSort fun x y => decide (x ≤ y)) := by
    have hs := List.pairwise_mergeSort (le := fun x y : Int => decide (x ≤ y)) (fun a b c h1 h2 => by simp at h1 h2 ⊢; omega) (fun a b => by simp; omega) ys
    have hd : (ys.mergeSort fun x y => decide (x ≤ y)).Nodup := hp.nodup_iff.2 hn
    exact (List.Pairwise.and hs hd).imp fun h => by simp at h; omega
  refine riseI_one _ _ h1 (upW_rise hr.keys 256) fun x => ?_
  rw [hp.mem_iff, hm]
  unfold dueW
  rw [upW_mem]
  constructor
  · intro h2
    have h3 := hr.ids _ h2
    exact ⟨h3.1, h3.2, _, h2, Int.le_refl _⟩
  · rintro ⟨_, _, a, h2, h3⟩
    have h4 := hr.ats _ h2
    have e : a = now + 1 := by dsimp only at h4; omega
    rw [← e]
    exact h2
end Go.Proofs.Ythbboiolhejmmaa
