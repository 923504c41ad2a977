/- Stage 22: a way through numbers: what comes behind one. No program here; no condition. -/
import Derived.Test.YtpphkmedlpdccaaRcA
set_option maxRecDepth 100000
namespace Go.Proofs.Ytpphkmedlpdccaa
set_option linter.unusedVariables false

/-- what comes behind x on a way; x, if nothing does -/
def nxR : List Int → Int → Int
  | a :: b :: r, x => if x = a then b else nxR (b :: r) x
  | _, x => x
theorem nxR_cons (a b : Int) (r : List Int) (x : Int) : nxR (a :: b :: r) x = if x = a then b else nxR (b :: r) x := rfl
theorem nxR_one (a x : Int) : nxR [a] x = x := rfl
theorem nxR_not {l : List Int} {x : Int} (h : x ∉ l) : nxR l x = x := by
  induction l with
  | nil => rfl
  | cons a r ih =>
    cases r with
    | nil => rfl
    | cons b r =>
      rw [nxR_cons, if_neg (fun e : x = a => h (e ▸ List.mem_cons_self)), ih (fun h2 => h (List.mem_cons_of_mem _ h2))]
theorem nxR_at (u v : List Int) (a b : Int) (h : a ∉ u) : nxR (u ++ a :: b :: v) a = b := by
  induction u with
  | nil => rw [List.nil_append, nxR_cons, if_pos rfl]
  | cons c u ih =>
    have h1 : a ≠ c := fun e => h (e ▸ List.mem_cons_self)
    have h2 : a ∉ u := fun h2 => h (List.mem_cons_of_mem _ h2)
    have ih := ih h2
    cases u with
    | nil =>
      rw [List.cons_append, List.nil_append, nxR_cons, if_neg h1]
      exact ih
    | cons d u =>
      rw [List.cons_append, List.cons_append, nxR_cons, if_neg h1]
      exact ih
/-- one more on the way -/
theorem nxR_ins (u v : List Int) (a x b : Int) (y : Int) (ha : a ∉ u) (hx : x ∉ u) (hax : x ≠ a) :
    nxR (u ++ a :: x :: b :: v) y = if y = x then b else if y = a then x else nxR (u ++ a :: b :: v) y := by
  induction u with
  | nil =>
    rw [List.nil_append, List.nil_append, nxR_cons, nxR_cons, nxR_cons]
    by_cases h1 : y = a
    · subst h1
      rw [if_pos rfl, if_neg (Ne.symm hax), if_pos rfl]
    · rw [if_neg h1, if_neg h1, if_neg h1]
  | cons c u ih =>
    have h1 : a ≠ c := fun e => ha (e ▸ List.mem_cons_self)
    have h2 : a ∉ u := fun h2 => ha (List.mem_cons_of_mem _ h2)
    have h3 : x ≠ c := fun e => hx (e ▸ List.mem_cons_self)
    have h4 : x ∉ u := fun h2 => hx (List.mem_cons_of_mem _ h2)
    have ih := ih h2 h4
    cases u with
    | nil =>
      simp only [List.nil_append, List.cons_append] at ih ⊢
      rw [nxR_cons c, nxR_cons c, ih]
      by_cases hc : y = c
      · subst hc
        rw [if_pos rfl, if_pos rfl, if_neg (Ne.symm h3), if_neg (Ne.symm h1)]
      · rw [if_neg hc, if_neg hc]
    | cons d u =>
      simp only [List.cons_append] at ih ⊢
      rw [nxR_cons c, nxR_cons c, ih]
      by_cases hc : y = c
      · subst hc
        rw [if_pos rfl, if_pos rfl, if_neg (Ne.symm h3), if_neg (Ne.symm h1)]
      · rw [if_neg hc, if_neg hc]
/-- one less on the way -/
theorem nxR_cut (u v : List Int) (a x b : Int) (y : Int) (ha : a ∉ u) (hx : x ∉ u) (hax : x ≠ a) (hl : x ∉ b :: v) :
    nxR (u ++ a :: b :: v) y = if y = x then x else if y = a then b else nxR (u ++ a :: x :: b :: v) y := by
  by_cases h1 : y = x
  · subst h1
    rw [if_pos rfl, nxR_not]
    intro h
    rcases List.mem_append.1 h with h | h
    · exact hx h
    · rcases List.mem_cons.1 h with h | h
      · exact hax h
      · exact hl h
  · by_cases h2 : y = a
    · subst h2
      rw [if_neg h1, if_pos rfl, nxR_at u v y b ha]
    · rw [if_neg h1, if_neg h2, nxR_ins u v a x b y ha hx hax, if_neg h1, if_neg h2]
/-- one that is on the way, but for its end, has another one behind it -/
theorem nxR_ne {u : List Int} {b x : Int} (h : x ∈ u) (hn : u.Nodup) (hb : x ≠ b) : nxR (u ++ [b]) x ≠ x := by
  obtain ⟨s, t, rfl⟩ := List.append_of_mem h
  have h1 : x ∉ s := fun h1 => by
    have := (List.nodup_append.1 hn).2.2 x h1 x List.mem_cons_self
    exact this rfl
  have h2 : x ∉ t := (List.nodup_cons.1 (List.nodup_append.1 hn).2.1).1
  cases t with
  | nil =>
    rw [List.append_assoc, List.cons_append, List.nil_append, nxR_at s [] x b h1]
    exact Ne.symm hb
  | cons y t =>
    rw [List.append_assoc, List.cons_append, List.cons_append, nxR_at s (t ++ [b]) x y h1]
    intro e
    exact h2 (e ▸ List.mem_cons_self)

/-- numbers from 0 up to n, each with what a way has behind it -/
structure TellsR (n : Nat) (v : List Int) (l : List Int) : Prop where
  len : v.length = n + 1
  tell : ∀ k : Nat, k ≤ n → v.getD k 0 = nxR l k
theorem getD_setR (v : List Int) (i k : Nat) (x : Int) (hi : i < v.length) : (v.set i x).getD k 0 = if k = i then x else v.getD k 0 := by
  rw [List.getD_eq_getElem?_getD, List.getD_eq_getElem?_getD, List.getElem?_set]
  by_cases h : i = k
  · subst h
    simp [hi]
  · rw [if_neg h, if_neg (Ne.symm h)]
/-- the whole way: round -/
def wayR (n : Nat) (s : List Int) : List Int := (n : Int) :: s ++ [(n : Int)]
theorem RightR.knot {n : Nat} {s : List Int} (h : RightR n s) : (n : Int) ∉ s := fun h1 => by have := h.all _ h1; omega
theorem RightR.way {n : Nat} {s : List Int} (h : RightR n s) : ((n : Int) :: s).Nodup := List.nodup_cons.2 ⟨h.knot, h.one⟩
theorem RightR.rev {n : Nat} {s : List Int} (h : RightR n s) : RightR n s.reverse := ⟨(List.reverse_perm s).nodup_iff.2 h.one, fun x hx => h.all x (List.mem_reverse.1 hx)⟩
/-- the links: behind and ahead -/
structure RingR (n : Nat) (va vb : List Int) (s : List Int) : Prop where
  right : RightR n s
  ahead : TellsR n va (wayR n s.reverse)
  behind : TellsR n vb (wayR n s)

theorem RingR.self {n : Nat} {va vb s : List Int} (h : RingR n va vb s) {x : Nat} (hx : x < n) : va.getD x 0 ≠ x ↔ (x : Int) ∈ s := by
  rw [h.ahead.tell x (by omega)]
  have hn : (x : Int) ≠ n := by omega
  constructor
  · intro h1
    apply Classical.byContradiction
    intro h2
    refine h1 (nxR_not ?_)
    intro h3
    unfold wayR at h3
    rcases List.mem_append.1 h3 with h3 | h3
    · rcases List.mem_cons.1 h3 with h3 | h3
      · exact hn h3
      · exact h2 (List.mem_reverse.1 h3)
    · exact hn (List.mem_singleton.1 h3)
  · intro h1
    exact nxR_ne (List.mem_cons_of_mem _ (List.mem_reverse.2 h1)) h.right.rev.way hn
theorem wayR_first (n : Nat) (s : List Int) : nxR (wayR n s) n = (s ++ [(n : Int)]).getD 0 0 := by
  unfold wayR
  cases s with
  | nil => exact nxR_at [] [] n n (by simp)
  | cons a s => exact nxR_at [] (s ++ [(n : Int)]) n a (by simp)
/-- the next one of the k-th -/
theorem wayR_next {n : Nat} {s : List Int} (h : RightR n s) {k : Nat} (hk : k < s.length) : nxR (wayR n s) (s.getD k 0) = (s ++ [(n : Int)]).getD (k + 1) 0 := by
  have e : s = s.take k ++ s.getD k 0 :: s.drop (k + 1) := by
    have e1 : s.getD k 0 = s[k] := by simp [List.getD, hk]
    rw [e1, List.getElem_cons_drop, List.take_append_drop]
  have hw := h.way
  generalize hx : s.getD k 0 = x at *
  have hl : (s.take k).length = k := by rw [List.length_take]; omega
  have e3 : (s ++ [(n : Int)]).getD (k + 1) 0 = (s.drop (k + 1) ++ [(n : Int)]).getD 0 0 := by
    conv => lhs; rw [e]
    rw [List.append_assoc, List.getD_eq_getElem?_getD, List.getD_eq_getElem?_getD, List.getElem?_append_right (by rw [hl]; omega), hl]
    have : k + 1 - k = 1 := by omega
    rw [this]
    rfl
  rw [e3]
  have hnot : x ∉ (n : Int) :: s.take k := by
    intro h1
    rw [e] at hw
    have h2 : ((n : Int) :: s.take k ++ x :: s.drop (k + 1)).Nodup := hw
    exact (List.nodup_append.1 h2).2.2 x h1 x List.mem_cons_self rfl
  have e4 : wayR n s = ((n : Int) :: s.take k) ++ x :: (s.drop (k + 1) ++ [(n : Int)]) := by
    unfold wayR
    conv => lhs; rw [e]
    simp
  rw [e4]
  cases hd : s.drop (k + 1) with
  | nil => exact nxR_at _ [] x n hnot
  | cons b r => exact nxR_at _ (r ++ [(n : Int)]) x b hnot
theorem wayR_rev (n : Nat) (s : List Int) : wayR n s.reverse = (wayR n s).reverse := by unfold wayR; simp
theorem wayR_mem {n : Nat} {s : List Int} {y : Int} (h : RightR n s) (hy : y ∈ wayR n s) : 0 ≤ y ∧ y ≤ n := by
  unfold wayR at hy
  rcases List.mem_append.1 hy with hy | hy
  · rcases List.mem_cons.1 hy with rfl | hy
    · omega
    · have := h.all y hy; omega
  · rw [List.mem_singleton.1 hy]; omega
/-- a number that is there, its neighbours, what is ahead of them and behind them -/
theorem wayR_cut {n : Nat} {s : List Int} (h : RightR n s) {x : Int} (hx : x ∈ s) : ∃ (u v : List Int) (a b : Int), wayR n s = u ++ a :: x :: b :: v ∧ wayR n (dropR s x) = u ++ a :: b :: v ∧ a ∉ u ∧ x ∉ u ∧ x ≠ a ∧ x ≠ b ∧ b ∉ v ∧ x ∉ v := by
  obtain ⟨p, q, rfl⟩ := List.append_of_mem hx
  have hw := h.way
  have hone := h.one
  have hkn := h.knot
  have hxp : x ∉ p := fun h1 => (List.nodup_append.1 hone).2.2 x h1 x List.mem_cons_self rfl
  have hxq : x ∉ q := (List.nodup_cons.1 (List.nodup_append.1 hone).2.1).1
  have hxn : x ≠ (n : Int) := fun e => hkn (e ▸ hx)
  have hnp : (n : Int) ∉ p := fun h1 => hkn (List.mem_append_left _ h1)
  have hnq : (n : Int) ∉ q := fun h1 => hkn (List.mem_append_right _ (List.mem_cons_of_mem _ h1))
  have hp1 : p.Nodup := (List.nodup_append.1 hone).1
  have hq1 : q.Nodup := (List.nodup_cons.1 (List.nodup_append.1 hone).2.1).2
  have ed : dropR (p ++ x :: q) x = p ++ q := by
    unfold dropR
    rw [List.filter_append, List.filter_cons_of_neg (by simp)]
    congr 1
    · rw [List.filter_eq_self]
      intro y hy
      have : y ≠ x := fun e => hxp (e ▸ hy)
      simpa using this
    · rw [List.filter_eq_self]
      intro y hy
      have : y ≠ x := fun e => hxq (e ▸ hy)
      simpa using this
  have hl : ∃ u a, (n : Int) :: p = u ++ [a] := by
    rcases List.eq_nil_or_concat ((n : Int) :: p) with h1 | ⟨u, a, h1⟩
    · cases h1
    · exact ⟨u, a, by simpa using h1⟩
  obtain ⟨u, a, hua⟩ := hl
  have hr : ∃ b v, q ++ [(n : Int)] = b :: v := by
    cases q with
    | nil => exact ⟨_, _, rfl⟩
    | cons b q => exact ⟨_, _, rfl⟩
  obtain ⟨b, v, hbv⟩ := hr
  have hnu : (u ++ [a]).Nodup := by rw [← hua]; exact List.nodup_cons.2 ⟨hnp, hp1⟩
  have hnv : (b :: v).Nodup := by
    rw [← hbv, List.nodup_append]
    refine ⟨hq1, by simp, fun y hy z hz => ?_⟩
    rw [List.mem_singleton.1 hz]
    exact fun e => hnq (e ▸ hy)
  have hxu : x ∉ u ++ [a] := by
    rw [← hua]
    intro h1
    rcases List.mem_cons.1 h1 with h1 | h1
    · exact hxn h1
    · exact hxp h1
  have hxv : x ∉ b :: v := by
    rw [← hbv]
    intro h1
    rcases List.mem_append.1 h1 with h1 | h1
    · exact hxq h1
    · exact hxn (List.mem_singleton.1 h1)
  refine ⟨u, v, a, b, ?_, ?_, ?_, ?_, ?_, ?_, ?_, ?_⟩
  · have : wayR n (p ++ x :: q) = ((n : Int) :: p) ++ x :: (q ++ [(n : Int)]) := by unfold wayR; simp
    rw [this, hua, hbv]
    simp
  · rw [ed]
    have : wayR n (p ++ q) = ((n : Int) :: p) ++ (q ++ [(n : Int)]) := by unfold wayR; simp
    rw [this, hua, hbv]
    simp
  · intro h1
    exact (List.nodup_append.1 hnu).2.2 a h1 a List.mem_cons_self rfl
  · exact fun h1 => hxu (List.mem_append_left _ h1)
  · exact fun h1 => hxu (List.mem_append_right _ (List.mem_singleton.2 h1))
  · exact fun h1 => hxv (h1 ▸ List.mem_cons_self)
  · exact (List.nodup_cons.1 hnv).1
  · exact fun h1 => hxv (List.mem_cons_of_mem _ h1)
theorem TellsR.set {n : Nat} {v l l' : List Int} (h : TellsR n v l) {i : Nat} {x : Int} (hi : i ≤ n) (f : ∀ k : Nat, k ≤ n → (if k = i then x else nxR l k) = nxR l' k) : TellsR n (v.set i x) l' :=
  ⟨by rw [List.length_set, h.len], fun k hk => by rw [getD_setR v i k x (by rw [h.len]; omega), h.tell k hk]; exact f k hk⟩
theorem TellsR.set2 {n : Nat} {v l l' : List Int} (h : TellsR n v l) {i j : Nat} {x y : Int} (hi : i ≤ n) (hj : j ≤ n) (f : ∀ k : Nat, k ≤ n → (if k = j then y else if k = i then x else nxR l k) = nxR l' k) : TellsR n ((v.set i x).set j y) l' :=
  ⟨by rw [List.length_set, List.length_set, h.len], fun k hk => by rw [getD_setR _ j k y (by rw [List.length_set, h.len]; omega), getD_setR v i k x (by rw [h.len]; omega), h.tell k hk]; exact f k hk⟩
theorem natI {k i : Nat} : ((k : Int) = (i : Int)) = (k = i) := propext Int.ofNat_inj
/-- a number is cut out of the ring -/
theorem RingR.cut {n : Nat} {va vb s : List Int} (h : RingR n va vb s) {x : Nat} (hx : x < n) :
    ∃ a b : Nat, a ≤ n ∧ b ≤ n ∧ va.getD x 0 = a ∧ vb.getD x 0 = b ∧ ((a = x ∧ b = x) ∨ (a ≠ x ∧ b ≠ x)) ∧ RingR n ((va.set b a).set x x) ((vb.set a b).set x x) (dropR s x) := by
  by_cases hin : (x : Int) ∈ s
  · obtain ⟨u, v, a, b, h1, h2, h3, h4, h5, h6, h7, h8⟩ := wayR_cut h.right hin
    have h9 := wayR_mem (y := a) h.right (by rw [h1]; simp)
    have h10 := wayR_mem (y := b) h.right (by rw [h1]; simp)
    obtain ⟨a, rfl⟩ := Int.eq_ofNat_of_zero_le h9.1
    obtain ⟨b, rfl⟩ := Int.eq_ofNat_of_zero_le h10.1
    have r1 : wayR n s.reverse = v.reverse ++ (b : Int) :: (x : Int) :: (a : Int) :: u.reverse := by rw [wayR_rev, h1]; simp
    have r2 : wayR n (dropR s x).reverse = v.reverse ++ (b : Int) :: (a : Int) :: u.reverse := by rw [wayR_rev, h2]; simp
    refine ⟨a, b, by omega, by omega, ?_, ?_, .inr ⟨by omega, by omega⟩, h.right.drop _, ?_, ?_⟩
    · rw [h.ahead.tell x (by omega), r1]
      have := nxR_at (v.reverse ++ [(b : Int)]) u.reverse x a (by simp [h8, h6])
      simpa using this
    · rw [h.behind.tell x (by omega), h1]
      have := nxR_at (u ++ [(a : Int)]) v x b (by simp [h4, h5])
      simpa using this
    · refine h.ahead.set2 (by omega) (by omega) fun k hk => ?_
      rw [r1, r2, nxR_cut v.reverse u.reverse b x a k (by simpa using h7) (by simpa using h8) h6 (by simp [h5, h4])]
      simp only [natI]
    · refine h.behind.set2 (by omega) (by omega) fun k hk => ?_
      rw [h1, h2, nxR_cut u v a x b k h3 h4 h5 (by simp [h6, h8])]
      simp only [natI]
  · have hd : dropR s x = s := dropR_all (by simpa using hin)
    have hw : ∀ t : List Int, (∀ y, y ∈ t → y ∈ s) → nxR (wayR n t) x = x := fun t ht => nxR_not (fun h1 => by
      unfold wayR at h1
      rcases List.mem_append.1 h1 with h1 | h1
      · rcases List.mem_cons.1 h1 with h1 | h1
        · omega
        · exact hin (ht _ h1)
      · have := List.mem_singleton.1 h1; omega)
    have w1 := hw s (fun _ h => h)
    have w2 := hw s.reverse (fun _ h => List.mem_reverse.1 h)
    rw [hd]
    refine ⟨x, x, by omega, by omega, by rw [h.ahead.tell x (by omega), w2], by rw [h.behind.tell x (by omega), w1], .inl ⟨rfl, rfl⟩, h.right, ?_, ?_⟩
    · refine h.ahead.set2 (by omega) (by omega) fun k hk => ?_
      by_cases hc : k = x
      · subst hc
        rw [if_pos rfl, w2]
      · rw [if_neg hc, if_neg hc]
    · refine h.behind.set2 (by omega) (by omega) fun k hk => ?_
      by_cases hc : k = x
      · subst hc
        rw [if_pos rfl, w1]
      · rw [if_neg hc, if_neg hc]
/-- a number that isn't there is laid behind the knot -/
theorem RingR.ins {n : Nat} {va vb s : List Int} (h : RingR n va vb s) {x : Nat} (hx : x < n) (hin : (x : Int) ∉ s) :
    ∃ b : Nat, b ≤ n ∧ vb.getD n 0 = b ∧ RingR n ((va.set x n).set b x) ((vb.set n x).set x b) ((x : Int) :: s) := by
  have hr : ∃ b v, s ++ [(n : Int)] = b :: v := by
    cases s with
    | nil => exact ⟨_, _, rfl⟩
    | cons b q => exact ⟨_, _, rfl⟩
  obtain ⟨b, v, hbv⟩ := hr
  have h1 : wayR n s = [] ++ (n : Int) :: b :: v := by rw [← hbv]; rfl
  have h2 : wayR n ((x : Int) :: s) = [] ++ (n : Int) :: (x : Int) :: b :: v := by rw [← hbv]; rfl
  have h10 := wayR_mem (y := b) h.right (by rw [h1]; simp)
  obtain ⟨b, rfl⟩ := Int.eq_ofNat_of_zero_le h10.1
  have r1 : wayR n s.reverse = v.reverse ++ (b : Int) :: (n : Int) :: [] := by rw [wayR_rev, h1]; simp
  have r2 : wayR n ((x : Int) :: s).reverse = v.reverse ++ (b : Int) :: (x : Int) :: (n : Int) :: [] := by rw [wayR_rev, h2]; simp
  have hnv : ((b : Int) :: v).Nodup := by
    rw [← hbv, List.nodup_append]
    refine ⟨h.right.one, by simp, fun y hy z hz => ?_⟩
    rw [List.mem_singleton.1 hz]
    exact fun e => h.right.knot (e ▸ hy)
  have hxv : (x : Int) ∉ (b : Int) :: v := by
    rw [← hbv]
    intro h1
    rcases List.mem_append.1 h1 with h1 | h1
    · exact hin h1
    · have := List.mem_singleton.1 h1; omega
  have hxb : (x : Int) ≠ b := fun e => hxv (e ▸ List.mem_cons_self)
  have hxb2 : x ≠ b := fun e => hxb (by rw [e])
  have hxv2 : (x : Int) ∉ v := fun e => hxv (List.mem_cons_of_mem _ e)
  have hxn : (x : Int) ≠ (n : Int) := by omega
  refine ⟨b, by omega, ?_, ⟨List.nodup_cons.2 ⟨hin, h.right.one⟩, ?_⟩, ?_, ?_⟩
  · rw [h.behind.tell n (by omega), h1]
    exact nxR_at [] v n b (by simp)
  · intro y hy
    rcases List.mem_cons.1 hy with rfl | hy
    · omega
    · exact h.right.all y hy
  · refine h.ahead.set2 (by omega) (by omega) fun k hk => ?_
    rw [r1, r2, nxR_ins v.reverse [] b x n k (by simpa using (List.nodup_cons.1 hnv).1) (by simpa using hxv2) hxb]
    simp only [natI]
    by_cases hc : k = b
    · subst hc
      rw [if_pos rfl, if_neg (Ne.symm hxb2), if_pos rfl]
    · rw [if_neg hc, if_neg hc]
  · refine h.behind.set2 (by omega) (by omega) fun k hk => ?_
    rw [h1, h2, nxR_ins [] v n x b k (by simp) (by simp) hxn]
    simp only [natI]
theorem getD_keepR {v : List Int} {i x : Nat} {y z : Int} (h : v.getD x 0 = z) (hi : i < v.length) (hc : i = x → y = z) : (v.set i y).getD x 0 = z := by
  rw [getD_setR v i x y hi]
  by_cases h1 : x = i
  · rw [if_pos h1]
    exact hc h1.symm
  · rw [if_neg h1, h]
theorem RingR.first {n : Nat} {va vb s : List Int} (h : RingR n va vb s) : vb.getD n 0 = (s ++ [(n : Int)]).getD 0 0 := by
  rw [h.behind.tell n (by omega), wayR_first]
theorem RingR.next {n : Nat} {va vb s : List Int} (h : RingR n va vb s) {k i : Nat} (hk : k < s.length) (hi : s.getD k 0 = i) (hin : i ≤ n) : vb.getD i 0 = (s ++ [(n : Int)]).getD (k + 1) 0 := by
  rw [h.behind.tell i hin, ← hi, wayR_next h.right hk]
theorem RingR.last {n : Nat} {va vb s : List Int} (h : RingR n va vb s) : va.getD n 0 = if 0 < s.length then s.getD (s.length - 1) 0 else n := by
  rw [h.ahead.tell n (by omega), wayR_first]
  rcases List.eq_nil_or_concat s with rfl | ⟨p, x, rfl⟩
  · rfl
  · simp [List.getD]
theorem RingR.new (n : Nat) (v : List Int) (hl : v.length = n + 1) (hv : ∀ k : Nat, k ≤ n → v.getD k 0 = k) : RingR n v v [] := by
  have h1 : TellsR n v (wayR n []) := ⟨hl, fun k hk => by
    rw [hv k hk]
    by_cases hc : k = n
    · subst hc
      exact (wayR_first k []).symm
    · refine (nxR_not ?_).symm
      unfold wayR
      simp
      omega⟩
  exact ⟨RightR.nil n, h1, h1⟩
end Go.Proofs.Ytpphkmedlpdccaa
