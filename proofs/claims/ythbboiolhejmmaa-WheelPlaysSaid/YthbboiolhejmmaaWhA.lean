/- Stage 23: timers, as the page says them: pairs of an id and a tick. No program here; no condition. -/
import Derived.Test.YthbboiolhejmmaaSlA
set_option maxRecDepth 100000
namespace Go.Proofs.Ythbboiolhejmmaa
set_option linter.unusedVariables false

def atW (now at_ : Int) : Int := if at_ ≤ now then now + 1 else at_
def setW (l : List (Int × Int)) (now id at_ : Int) : List (Int × Int) := outS l id ++ [(id, atW now at_)]
def restW (l : List (Int × Int)) (now : Int) : List (Int × Int) := l.filter fun p => decide (now < p.2)
/-- those of one id that are due, as ids; those of the ids below k; all -/
def oneW (l : List (Int × Int)) (now id : Int) : List Int := (l.filter fun p => p.1 == id && decide (p.2 ≤ now)).map fun _ => id
def upW (l : List (Int × Int)) (now : Int) : Nat → List Int
  | 0 => []
  | k + 1 => upW l now k ++ oneW l now k
def dueW (l : List (Int × Int)) (now : Int) : List Int := upW l now 256
/-- what timers there may be -/
structure RightW (now : Int) (l : List (Int × Int)) : Prop where
  keys : (l.map (·.1)).Nodup
  ids : ∀ p ∈ l, 0 ≤ p.1 ∧ p.1 < 256
  ats : ∀ p ∈ l, now < p.2 ∧ p.2 ≤ 9223372036854775807
theorem RightW.nil (now : Int) : RightW now [] := ⟨List.nodup_nil, (fun _ h => by cases h), (fun _ h => by cases h)⟩
theorem RightW.out {now : Int} {l : List (Int × Int)} (h : RightW now l) (id : Int) : RightW now (outS l id) :=
  ⟨keys_out id h.keys, fun p hp => h.ids p (List.mem_filter.1 hp).1, fun p hp => h.ats p (List.mem_filter.1 hp).1⟩
theorem outS_not {l : List (Int × Int)} {id : Int} {p : Int × Int} (h : p ∈ outS l id) : p.1 ≠ id := by
  have := (List.mem_filter.1 h).2
  simpa using this
theorem RightW.set {now id at_ : Int} {l : List (Int × Int)} (h : RightW now l) (h0 : 0 ≤ id) (h1 : id < 256) (hn : now < 9223372036854775807) (ha : at_ ≤ 9223372036854775807) : RightW now (setW l now id at_) := by
  have h2 := h.out id
  refine ⟨?_, fun p hp => ?_, fun p hp => ?_⟩
  · unfold setW
    rw [List.map_append, List.nodup_append]
    refine ⟨h2.keys, by simp, fun a ha b hb e => ?_⟩
    obtain ⟨p, hp, rfl⟩ := List.mem_map.1 ha
    have hb : b = id := by simpa using hb
    exact outS_not hp (e.trans hb)
  · rcases List.mem_append.1 hp with hp | hp
    · exact h2.ids p hp
    · rw [List.mem_singleton.1 hp]
      exact ⟨h0, h1⟩
  · rcases List.mem_append.1 hp with hp | hp
    · exact h2.ats p hp
    · rw [List.mem_singleton.1 hp]
      unfold atW
      dsimp only
      split <;> omega
theorem RightW.rest {now : Int} {l : List (Int × Int)} (h : RightW now l) (m : Int) : RightW m (restW l m) :=
  ⟨List.Sublist.nodup (List.Sublist.map _ List.filter_sublist) h.keys, fun p hp => h.ids p (List.mem_filter.1 hp).1, fun p hp => ⟨by have := (List.mem_filter.1 hp).2; simpa using this, (h.ats p (List.mem_filter.1 hp).1).2⟩⟩
theorem restW_len (l : List (Int × Int)) (now : Int) : (restW l now).length ≤ l.length := List.length_filter_le _ _
theorem outS_len2 (l : List (Int × Int)) (id : Int) : (outS l id).length ≤ l.length := List.length_filter_le _ _
theorem setW_len (l : List (Int × Int)) (now id at_ : Int) : (setW l now id at_).length ≤ l.length + 1 := by
  unfold setW
  have := outS_len2 l id
  simp
  omega
theorem outS_take (l : List (Int × Int)) (id : Int) (i : Nat) (h : i < l.length) : outS (l.take (i + 1)) id = if (l.getD i (0, 0)).1 = id then outS (l.take i) id else outS (l.take i) id ++ [l.getD i (0, 0)] := by
  have e : l.getD i (0, 0) = l[i] := by simp [List.getD, h]
  unfold outS
  rw [List.take_succ_eq_append_getElem h, List.filter_append, e]
  by_cases h2 : l[i].1 = id
  · simp [h2]
  · simp [h2]
theorem restW_take (l : List (Int × Int)) (now : Int) (i : Nat) (h : i < l.length) : restW (l.take (i + 1)) now = if now < (l.getD i (0, 0)).2 then restW (l.take i) now ++ [l.getD i (0, 0)] else restW (l.take i) now := by
  have e : l.getD i (0, 0) = l[i] := by simp [List.getD, h]
  unfold restW
  rw [List.take_succ_eq_append_getElem h, List.filter_append, e]
  by_cases h2 : now < l[i].2
  · simp [h2]
  · simp [h2]
theorem oneW_take (l : List (Int × Int)) (now id : Int) (i : Nat) (h : i < l.length) : oneW (l.take (i + 1)) now id = if (l.getD i (0, 0)).1 = id ∧ (l.getD i (0, 0)).2 ≤ now then oneW (l.take i) now id ++ [id] else oneW (l.take i) now id := by
  have e : l.getD i (0, 0) = l[i] := by simp [List.getD, h]
  unfold oneW
  rw [List.take_succ_eq_append_getElem h, List.filter_append, e, List.map_append]
  by_cases h2 : l[i].1 = id ∧ l[i].2 ≤ now
  · rw [if_pos h2]
    simp [h2.1, h2.2]
  · rw [if_neg h2]
    have h3 : (l[i].1 == id && decide (l[i].2 ≤ now)) = false := by
      cases h4 : (l[i].1 == id && decide (l[i].2 ≤ now))
      · rfl
      · simp at h4
        exact absurd h4 h2
    simp [h3]
theorem oneW_len (l : List (Int × Int)) (now id : Int) : (oneW l now id).length ≤ l.length := by
  unfold oneW
  rw [List.length_map]
  exact List.length_filter_le _ _
theorem upW_len (l : List (Int × Int)) (now : Int) : ∀ k : Nat, (upW l now k).length ≤ k * l.length
  | 0 => by simp [upW]
  | k + 1 => by
    have h1 := upW_len l now k
    have h2 := oneW_len l now k
    unfold upW
    rw [List.length_append, Nat.add_mul]
    omega
theorem oneW_all {l : List (Int × Int)} {now id x : Int} (h : x ∈ oneW l now id) : x = id := by
  obtain ⟨p, _, e⟩ := List.mem_map.1 h
  exact e.symm
theorem upW_all {l : List (Int × Int)} {now x : Int} : ∀ {k : Nat}, x ∈ upW l now k → 0 ≤ x ∧ x < k
  | 0, h => by cases h
  | k + 1, h => by
    unfold upW at h
    rcases List.mem_append.1 h with h | h
    · have := upW_all h
      omega
    · rw [oneW_all h]
      omega
end Go.Proofs.Ythbboiolhejmmaa
