/- The page's words on routing headers, as functions of lists: whether one can be, its bytes, the header of bytes; what was put is parsed as what it was. No program here. -/
import Derived.Test.YtnfiijbnfmcpjaaTlA
import Derived.Test.YtnfiijbnfmcpjaaOctD
import Derived.Test.YtnfiijbnfmcpjaaVals
namespace Go.Proofs.Ytnfiijbnfmcpjaa
open Go.RowKit
set_option linter.unusedVariables false

/-- what a routing header says: its numbers, its segments (each a list of 16 bytes), its parts -/
structure Rb where
  nx : Int
  le : Int
  fl : Int
  tg : Int
  sg : List (List Int)
  tl : List Ob
def zeroRb : Rb := ⟨0, 0, 0, 0, [], []⟩
/-- each is an address -/
def AllA (l : List (List Int)) : Prop := ∀ s ∈ l, s.length = 16 ∧ AllB s
theorem AllA.nil : AllA [] := fun _ h => by cases h
theorem AllA.cons {s : List Int} {l : List (List Int)} (h : s.length = 16) (ha : AllB s) (hl : AllA l) : AllA (s :: l) := fun y hy => by
  rcases List.mem_cons.1 hy with rfl | hy
  · exact ⟨h, ha⟩
  · exact hl y hy
theorem AllA.append {xs ys : List (List Int)} (h : AllA xs) (k : AllA ys) : AllA (xs ++ ys) := fun x hx => by
  rcases List.mem_append.1 hx with hx | hx
  · exact h x hx
  · exact k x hx
theorem AllA.take {xs : List (List Int)} (h : AllA xs) (n : Nat) : AllA (xs.take n) := fun x hx => h x (List.mem_of_mem_take hx)
theorem AllA.getD {l : List (List Int)} (h : AllA l) (i : Nat) : (l.getD i zero16).length = 16 ∧ AllB (l.getD i zero16) := by
  rcases Nat.lt_or_ge i l.length with hi | hi
  · have e : l.getD i zero16 = l[i] := by simp [List.getD, hi]
    rw [e]; exact h _ (List.getElem_mem hi)
  · have e : l.getD i zero16 = zero16 := by simp [List.getD, List.getElem?_eq_none hi]
    rw [e]; exact ⟨rfl, zero_all⟩
theorem flatA_len : ∀ {l : List (List Int)}, AllA l → l.flatten.length = l.length * 16
  | [], _ => rfl
  | s :: l, h => by
    have ih := flatA_len (l := l) fun x hx => h x (List.mem_cons_of_mem _ hx)
    have := (h s List.mem_cons_self).1
    simp only [List.flatten_cons, List.length_append, List.length_cons]
    omega
theorem flatA_all {l : List (List Int)} (h : AllA l) : AllB l.flatten := fun x hx => by
  obtain ⟨s, hs, hx⟩ := List.mem_flatten.1 hx
  exact (h s hs).2 x hx
theorem flatA_get : ∀ {l : List (List Int)}, AllA l → ∀ {i j : Nat}, i < l.length → j < 16 → l.flatten.getD (i * 16 + j) 0 = (l.getD i zero16).getD j 0
  | [], _, i, j, hi, hj => by simp at hi
  | s :: l, h, 0, j, hi, hj => by
    have hs := (h s List.mem_cons_self).1
    have hj' : j < s.length := by omega
    simp [List.getD, List.getElem?_append, hj']
  | s :: l, h, i + 1, j, hi, hj => by
    have ih := flatA_get (l := l) (fun x hx => h x (List.mem_cons_of_mem _ hx)) (i := i) (j := j) (by simpa using hi) hj
    have hs := (h s List.mem_cons_self).1
    rw [List.getD_cons_succ, ← ih, List.flatten_cons]
    simp only [List.getD, List.getElem?_append]
    rw [if_neg (by omega), show (i + 1) * 16 + j - s.length = i * 16 + j by omega]
theorem flatA_take {l : List (List Int)} {i : Nat} (h : i < l.length) : (l.take (i + 1)).flatten = (l.take i).flatten ++ l.getD i zero16 := by
  rw [List.take_succ_eq_append_getElem h, List.flatten_append]
  simp [List.getD, h]

/-- can it be? -/
def fitR (x : Rb) : Bool := decide ((0 ≤ x.nx ∧ x.nx ≤ 255) ∧ (0 ≤ x.le ∧ x.le ≤ 255) ∧ (0 ≤ x.fl ∧ x.fl ≤ 255) ∧ (0 ≤ x.tg ∧ x.tg ≤ 65535))
def canR (x : Rb) : Int := if fitR x = true then (if x.sg.length = 0 ∨ 10 < x.sg.length then 8 else if (x.sg.length : Int) ≤ x.le then 5 else canT x.tl) else 2
/-- how many bytes it takes, and they -/
def sizeR (x : Rb) : Nat := 8 + 16 * x.sg.length + (putT x.tl).length
def headR (x : Rb) : List Int := [x.nx, ((sizeR x : Nat) : Int) / 8 - 1, 4, x.le, (x.sg.length : Int) - 1, x.fl] ++ two x.tg
def flatR (x : Rb) : List Int := headR x ++ x.sg.flatten ++ putT x.tl
def putR (x : Rb) : List Int := if canR x = 0 then flatR x else []
theorem fitR_spec {x : Rb} (h : fitR x = true) : (0 ≤ x.nx ∧ x.nx ≤ 255) ∧ (0 ≤ x.le ∧ x.le ≤ 255) ∧ (0 ≤ x.fl ∧ x.fl ≤ 255) ∧ (0 ≤ x.tg ∧ x.tg ≤ 65535) := of_decide_eq_true h
theorem canR_zero {x : Rb} (h : canR x = 0) : fitR x = true ∧ (0 < x.sg.length ∧ x.sg.length ≤ 10) ∧ x.le < x.sg.length ∧ canT x.tl = 0 := by
  unfold canR at h
  split at h
  · rename_i h1
    split at h
    · omega
    · rename_i h2
      split at h
      · omega
      · rename_i h3
        exact ⟨h1, by omega, by omega, h⟩
  · omega
theorem canR_err (x : Rb) : 0 ≤ canR x ∧ canR x ≤ 8 := by
  have := canT_err x.tl
  unfold canR
  repeat' split
  all_goals omega
theorem headR_len (x : Rb) : (headR x).length = 8 := rfl
theorem flatR_len {x : Rb} (h : AllA x.sg) : (flatR x).length = sizeR x := by
  unfold flatR sizeR
  simp only [List.length_append, headR_len, flatA_len h]
  omega
theorem sizeR_bounds {x : Rb} (h : canR x = 0) : 24 ≤ sizeR x ∧ sizeR x ≤ 424 ∧ sizeR x % 8 = 0 := by
  obtain ⟨_, h2, _, h4⟩ := canR_zero h
  have := putT_len h4
  unfold sizeR
  omega
theorem headR_all {x : Rb} (h : canR x = 0) : AllB (headR x) := by
  have hs := sizeR_bounds h
  obtain ⟨h1, h2, _, h4⟩ := canR_zero h
  obtain ⟨b1, b2, b3, b4⟩ := fitR_spec h1
  exact (AllB.cons (by omega) (by omega) (.cons (by omega) (by omega) (.cons (by omega) (by omega) (.cons (by omega) (by omega) (.cons (by omega) (by omega) (.cons (by omega) (by omega) .nil)))))).append (two_all _)
theorem putR_none {x : Rb} (h : canR x ≠ 0) : putR x = [] := by unfold putR; rw [if_neg h]
theorem putR_yes {x : Rb} (h : canR x = 0) : putR x = flatR x := by unfold putR; rw [if_pos h]
theorem putR_len {x : Rb} (ha : AllA x.sg) (h : canR x = 0) : (putR x).length = sizeR x := by rw [putR_yes h, flatR_len ha]
theorem putR_len_le {x : Rb} (ha : AllA x.sg) : (putR x).length ≤ 424 := by
  by_cases h : canR x = 0
  · rw [putR_len ha h]; exact (sizeR_bounds h).2.1
  · rw [putR_none h]; simp

/-- the header that bytes begin with: how long it says that it is; where its parts begin; what is wrong ahead of them -/
def wideR (xs : List Int) : Nat := 8 * ((xs.getD 1 0).toNat + 1)
def manyR (xs : List Int) : Nat := (xs.getD 4 0).toNat + 1
def fromR (xs : List Int) : Nat := 8 + 16 * manyR xs
def aheadR (xs : List Int) : Int :=
  if xs.length < 8 then 3 else if xs.length < wideR xs then 3 else if xs.getD 2 0 ≠ 4 then 7 else if 10 < manyR xs then 8 else if wideR xs < fromR xs ∨ (manyR xs : Int) ≤ xs.getD 3 0 then 5 else 0
/-- bytes, 16 at a time -/
def chunksR : Nat → List Int → List (List Int)
  | 0, _ => []
  | k + 1, xs => xs.take 16 :: chunksR k (xs.drop 16)
def partsR (xs : List Int) : List Ob × Int := parseTL ((xs.take (wideR xs)).drop (fromR xs))
def saysR (xs : List Int) : Rb := ⟨xs.getD 0 0, xs.getD 3 0, xs.getD 5 0, num2 xs 6, chunksR (manyR xs) (xs.drop 8), (partsR xs).1⟩
def errR (xs : List Int) : Int := if aheadR xs = 0 then (partsR xs).2 else aheadR xs
def parseR (xs : List Int) : Rb := if errR xs = 0 then saysR xs else zeroRb
def lenR (xs : List Int) : Nat := if errR xs = 0 then wideR xs else 0

theorem chunksR_len : ∀ (k : Nat) (xs : List Int), (chunksR k xs).length = k
  | 0, _ => rfl
  | k + 1, xs => by simp [chunksR, chunksR_len k]
theorem chunksR_all : ∀ (k : Nat) {xs : List Int}, AllB xs → k * 16 ≤ xs.length → AllA (chunksR k xs)
  | 0, _, _, _ => AllA.nil
  | k + 1, xs, h, hl => .cons (by rw [List.length_take]; omega) (h.take 16) (chunksR_all k (h.drop 16) (by rw [List.length_drop]; omega))
theorem chunksR_take : ∀ (k : Nat) (xs : List Int), chunksR k (xs.take (k * 16)) = chunksR k xs
  | 0, _ => rfl
  | k + 1, xs => by
    unfold chunksR
    rw [List.take_take, List.drop_take, show (k + 1) * 16 - 16 = k * 16 by omega, chunksR_take k, show min 16 ((k + 1) * 16) = 16 by omega]
theorem chunksR_back : ∀ {l : List (List Int)}, AllA l → ∀ ys : List Int, chunksR l.length (l.flatten ++ ys) = l
  | [], _, _ => rfl
  | s :: l, h, ys => by
    have ih := chunksR_back (l := l) (fun x hx => h x (List.mem_cons_of_mem _ hx)) ys
    have hs := (h s List.mem_cons_self).1
    rw [List.length_cons, List.flatten_cons, chunksR, List.append_assoc, ← hs, List.take_left, List.drop_left, ih]
theorem chunksR_succ : ∀ (k : Nat) (xs : List Int), chunksR (k + 1) xs = chunksR k xs ++ [(xs.drop (k * 16)).take 16]
  | 0, xs => by simp [chunksR]
  | k + 1, xs => by
    rw [chunksR, chunksR_succ k, chunksR, List.drop_drop, show 16 + k * 16 = (k + 1) * 16 by omega]
    rfl
theorem chunksR_flat : ∀ (k : Nat) (xs : List Int), (chunksR k xs).flatten = xs.take (k * 16)
  | 0, xs => by simp [chunksR]
  | k + 1, xs => by
    rw [chunksR, List.flatten_cons, chunksR_flat k, show (k + 1) * 16 = 16 + k * 16 by omega, List.take_add]
theorem aheadR_err (xs : List Int) : 0 ≤ aheadR xs ∧ aheadR xs ≤ 8 := by
  unfold aheadR
  repeat' split
  all_goals omega
theorem aheadR_zero {xs : List Int} (h : aheadR xs = 0) : 8 ≤ xs.length ∧ wideR xs ≤ xs.length ∧ xs.getD 2 0 = 4 ∧ (1 ≤ manyR xs ∧ manyR xs ≤ 10) ∧ fromR xs ≤ wideR xs ∧ xs.getD 3 0 < manyR xs := by
  unfold aheadR at h
  have hm : 1 ≤ manyR xs := by unfold manyR; omega
  split at h
  · omega
  · split at h
    · omega
    · split at h
      · omega
      · split at h
        · omega
        · split at h
          · omega
          · rename_i h1 h2 h3 h4 h5
            exact ⟨by omega, by omega, by omega, ⟨hm, by omega⟩, by omega, by omega⟩
theorem partsR_range (xs : List Int) : 0 ≤ (partsR xs).2 ∧ (partsR xs).2 ≤ 3 := parseT_range _ _
theorem wideR_le {xs : List Int} (h : AllB xs) : wideR xs ≤ 2048 := by
  have := h.getD 1
  unfold wideR
  omega
theorem errR_range (xs : List Int) : 0 ≤ errR xs ∧ errR xs ≤ 8 := by
  have := aheadR_err xs
  have := partsR_range xs
  unfold errR
  split <;> omega
theorem errR_zero {xs : List Int} (h : errR xs = 0) : aheadR xs = 0 ∧ (partsR xs).2 = 0 := by
  unfold errR at h
  split at h
  · rename_i h1; exact ⟨h1, h⟩
  · rename_i h1; exact absurd h h1

/-- what was put is parsed as what it was, whatever stands behind it -/
theorem two_num {x : Int} (h : 0 ≤ x ∧ x ≤ 65535) : x / 256 % 256 * 256 + x % 256 = x := by omega
theorem parse_putR {x : Rb} (ha : AllA x.sg) (h : canR x = 0) (ys : List Int) : errR (putR x ++ ys) = 0 ∧ parseR (putR x ++ ys) = x ∧ lenR (putR x ++ ys) = sizeR x := by
  have hs := sizeR_bounds h
  have hfl := flatR_len ha
  obtain ⟨h1, h2, h3, h4⟩ := canR_zero h
  obtain ⟨b1, b2, b3, b4⟩ := fitR_spec h1
  have hpt := parse_putT h4 0 0
  have hp0 : padT 0 = [] := rfl
  rw [hp0, List.nil_append, List.append_nil] at hpt
  rw [putR_yes h]
  generalize hz : flatR x ++ ys = zs
  have hzl : zs.length = sizeR x + ys.length := by rw [← hz, List.length_append, hfl]
  have hze : zs = headR x ++ (x.sg.flatten ++ (putT x.tl ++ ys)) := by rw [← hz]; unfold flatR; simp
  have hg : ∀ i, i < 8 → zs.getD i 0 = (headR x).getD i 0 := fun i hi => by
    rw [hze]
    simp [List.getD, List.getElem?_append, headR_len, hi]
  have g0 : zs.getD 0 0 = x.nx := hg 0 (by omega)
  have g1 : zs.getD 1 0 = ((sizeR x : Nat) : Int) / 8 - 1 := hg 1 (by omega)
  have g2 : zs.getD 2 0 = 4 := hg 2 (by omega)
  have g3 : zs.getD 3 0 = x.le := hg 3 (by omega)
  have g4 : zs.getD 4 0 = (x.sg.length : Int) - 1 := hg 4 (by omega)
  have g5 : zs.getD 5 0 = x.fl := hg 5 (by omega)
  have g6 : zs.getD 6 0 = x.tg / 256 % 256 := hg 6 (by omega)
  have g7 : zs.getD 7 0 = x.tg % 256 := hg 7 (by omega)
  have hl : wideR zs = sizeR x := by unfold wideR; rw [g1]; omega
  have hm : manyR zs = x.sg.length := by unfold manyR; rw [g4]; omega
  have hf : fromR zs = 8 + 16 * x.sg.length := by unfold fromR; rw [hm]
  have hn : num2 zs 6 = x.tg := by
    unfold num2
    rw [g6, g7]
    exact two_num b4
  have hah : aheadR zs = 0 := by
    unfold aheadR
    rw [hl, hm, hf, g2, g3, if_neg (by omega), if_neg (by omega), if_neg (by simp), if_neg (by omega), if_neg (by unfold sizeR; omega)]
  have hpa : partsR zs = (x.tl, 0) := by
    unfold partsR
    rw [hl, hf]
    have e1 : zs.take (sizeR x) = flatR x := by rw [← hz, ← hfl, List.take_left]
    have e2 : (flatR x).drop (8 + 16 * x.sg.length) = putT x.tl := by
      unfold flatR
      have e3 : (headR x ++ x.sg.flatten).length = 8 + 16 * x.sg.length := by rw [List.length_append, headR_len, flatA_len ha]; omega
      rw [← e3, List.drop_left]
    rw [e1, e2]
    exact hpt
  have hch : chunksR (manyR zs) (zs.drop 8) = x.sg := by
    rw [hm, hze, ← headR_len x, List.drop_left]
    exact chunksR_back ha _
  have her : errR zs = 0 := by unfold errR; rw [if_pos hah, hpa]
  refine ⟨her, ?_, ?_⟩
  · unfold parseR saysR
    rw [if_pos her, g0, g3, g5, hn, hch, hpa]
  · unfold lenR
    rw [if_pos her, hl]
end Go.Proofs.Ytnfiijbnfmcpjaa
