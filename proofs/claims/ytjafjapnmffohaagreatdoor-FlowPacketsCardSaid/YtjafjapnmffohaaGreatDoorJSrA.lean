/- Texts joined.
  The page's words on routing headers, as functions of lists: whether one can be, its bytes, the header of bytes; what was put is parsed as what it was. No program here.
  Slices of addresses in memory: what such a slice reads as, how that is kept while memory grows; append onto a row of the call's own. Routing headers by value and in memory. No condition.
  What the laws' own small, srh.segment, Active and Final answer. Condition: at most 2^47 segments.
  What srh.Can, and the document's own, answer: whether a routing header can be. Condition: at most 2^47 segments and parts.
  What srh.lay, laid.size, laid.bytes, Put and Size answer: a routing header as it is laid, and its bytes. Condition: at most 2^47 segments and parts.
  What laid.bytes, srh.Put and Size answer: the bytes of a routing header. Condition: at most 2^47 segments and parts.
  What the document's own Put answers: the bytes of a routing header. Condition: at most 2^47 segments and parts.
-/
import Derived.Test.YtjafjapnmffohaaGreatDoorJTl
import Derived.Test.YtjafjapnmffohaaGreatDoorJOct
import Derived.Test.YtjafjapnmffohaaGreatDoorVals
import Derived.Test.YtjafjapnmffohaaGreatDoorJTp
import Derived.Deep.MidRow
import Derived.Test.YtjafjapnmffohaaGreatDoorSlc
import Derived.Test.YtjafjapnmffohaaGreatDoorJReg
set_option maxRecDepth 100000
namespace Go.Proofs.YtjafjapnmffohaaGreatDoor
open Go.RowKit
set_option linter.unusedVariables false

/-- what a routing header says: its numbers, its segments (each a list of 16 bytes), its parts -/
structure Rb where
  nx : Int
  le : Int
  fl : Int
  tg : Int
  sg : List (List Int)
  tl : List Ob
def zeroRb : Rb := ⟨0, 0, 0, 0, [], []⟩
/-- each is an address -/
def AllA (l : List (List Int)) : Prop := ∀ s ∈ l, s.length = 16 ∧ AllB s
theorem AllA.nil : AllA [] := fun _ h => by cases h
theorem AllA.cons {s : List Int} {l : List (List Int)} (h : s.length = 16) (ha : AllB s) (hl : AllA l) : AllA (s :: l) := fun y hy => by
  rcases List.mem_cons.1 hy with rfl | hy
  · exact ⟨h, ha⟩
  · exact hl y hy
theorem AllA.append {xs ys : List (List Int)} (h : AllA xs) (k : AllA ys) : AllA (xs ++ ys) := fun x hx => by
  rcases List.mem_append.1 hx with hx | hx
  · exact h x hx
  · exact k x hx
theorem AllA.take {xs : List (List Int)} (h : AllA xs) (n : Nat) : AllA (xs.take n) := fun x hx => h x (List.mem_of_mem_take hx)
theorem AllA.getD {l : List (List Int)} (h : AllA l) (i : Nat) : (l.getD i zero16).length = 16 ∧ AllB (l.getD i zero16) := by
  rcases Nat.lt_or_ge i l.length with hi | hi
  · have e : l.getD i zero16 = l[i] := by simp [List.getD, hi]
    rw [e]; exact h _ (List.getElem_mem hi)
  · have e : l.getD i zero16 = zero16 := by simp [List.getD, List.getElem?_eq_none hi]
    rw [e]; exact ⟨rfl, zero_all⟩
theorem flatA_len : ∀ {l : List (List Int)}, AllA l → l.flatten.length = l.length * 16
  | [], _ => rfl
  | s :: l, h => by
    have ih := flatA_len (l := l) fun x hx => h x (List.mem_cons_of_mem _ hx)
    have := (h s List.mem_cons_self).1
    simp only [List.flatten_cons, List.length_append, List.length_cons]
    omega
theorem flatA_all {l : List (List Int)} (h : AllA l) : AllB l.flatten := fun x hx => by
  obtain ⟨s, hs, hx⟩ := List.mem_flatten.1 hx
  exact (h s hs).2 x hx
theorem flatA_get : ∀ {l : List (List Int)}, AllA l → ∀ {i j : Nat}, i < l.length → j < 16 → l.flatten.getD (i * 16 + j) 0 = (l.getD i zero16).getD j 0
  | [], _, i, j, hi, hj => by simp at hi
  | s :: l, h, 0, j, hi, hj => by
    have hs := (h s List.mem_cons_self).1
    have hj' : j < s.length := by omega
    simp [List.getD, List.getElem?_append, hj']
  | s :: l, h, i + 1, j, hi, hj => by
    have ih := flatA_get (l := l) (fun x hx => h x (List.mem_cons_of_mem _ hx)) (i := i) (j := j) (by simpa using hi) hj
    have hs := (h s List.mem_cons_self).1
    rw [List.getD_cons_succ, ← ih, List.flatten_cons]
    simp only [List.getD, List.getElem?_append]
    rw [if_neg (by omega), show (i + 1) * 16 + j - s.length = i * 16 + j by omega]
theorem flatA_take {l : List (List Int)} {i : Nat} (h : i < l.length) : (l.take (i + 1)).flatten = (l.take i).flatten ++ l.getD i zero16 := by
  rw [List.take_succ_eq_append_getElem h, List.flatten_append]
  simp [List.getD, h]

/-- can it be? -/
def fitR (x : Rb) : Bool := decide ((0 ≤ x.nx ∧ x.nx ≤ 255) ∧ (0 ≤ x.le ∧ x.le ≤ 255) ∧ (0 ≤ x.fl ∧ x.fl ≤ 255) ∧ (0 ≤ x.tg ∧ x.tg ≤ 65535))
def canR (x : Rb) : Int := if fitR x = true then (if x.sg.length = 0 ∨ 10 < x.sg.length then 8 else if (x.sg.length : Int) ≤ x.le then 5 else canT x.tl) else 2
/-- how many bytes it takes, and they -/
def sizeR (x : Rb) : Nat := 8 + 16 * x.sg.length + (putT x.tl).length
def headR (x : Rb) : List Int := [x.nx, ((sizeR x : Nat) : Int) / 8 - 1, 4, x.le, (x.sg.length : Int) - 1, x.fl] ++ two x.tg
def flatR (x : Rb) : List Int := headR x ++ x.sg.flatten ++ putT x.tl
def putR (x : Rb) : List Int := if canR x = 0 then flatR x else []
theorem fitR_spec {x : Rb} (h : fitR x = true) : (0 ≤ x.nx ∧ x.nx ≤ 255) ∧ (0 ≤ x.le ∧ x.le ≤ 255) ∧ (0 ≤ x.fl ∧ x.fl ≤ 255) ∧ (0 ≤ x.tg ∧ x.tg ≤ 65535) := of_decide_eq_true h
theorem canR_zero {x : Rb} (h : canR x = 0) : fitR x = true ∧ (0 < x.sg.length ∧ x.sg.length ≤ 10) ∧ x.le < x.sg.length ∧ canT x.tl = 0 := by
  unfold canR at h
  split at h
  · rename_i h1
    split at h
    · omega
    · rename_i h2
      split at h
      · omega
      · rename_i h3
        exact ⟨h1, by omega, by omega, h⟩
  · omega
theorem canR_err (x : Rb) : 0 ≤ canR x ∧ canR x ≤ 8 := by
  have := canT_err x.tl
  unfold canR
  repeat' split
  all_goals omega
theorem headR_len (x : Rb) : (headR x).length = 8 := rfl
theorem flatR_len {x : Rb} (h : AllA x.sg) : (flatR x).length = sizeR x := by
  unfold flatR sizeR
  simp only [List.length_append, headR_len, flatA_len h]
  omega
theorem sizeR_bounds {x : Rb} (h : canR x = 0) : 24 ≤ sizeR x ∧ sizeR x ≤ 424 ∧ sizeR x % 8 = 0 := by
  obtain ⟨_, h2, _, h4⟩ := canR_zero h
  have := putT_len h4
  unfold sizeR
  omega
theorem headR_all {x : Rb} (h : canR x = 0) : AllB (headR x) := by
  have hs := sizeR_bounds h
  obtain ⟨h1, h2, _, h4⟩ := canR_zero h
  obtain ⟨b1, b2, b3, b4⟩ := fitR_spec h1
  exact (AllB.cons (by omega) (by omega) (.cons (by omega) (by omega) (.cons (by omega) (by omega) (.cons (by omega) (by omega) (.cons (by omega) (by omega) (.cons (by omega) (by omega) .nil)))))).append (two_all _)
theorem putR_none {x : Rb} (h : canR x ≠ 0) : putR x = [] := by unfold putR; rw [if_neg h]
theorem putR_yes {x : Rb} (h : canR x = 0) : putR x = flatR x := by unfold putR; rw [if_pos h]
theorem putR_len {x : Rb} (ha : AllA x.sg) (h : canR x = 0) : (putR x).length = sizeR x := by rw [putR_yes h, flatR_len ha]
theorem putR_len_le {x : Rb} (ha : AllA x.sg) : (putR x).length ≤ 424 := by
  by_cases h : canR x = 0
  · rw [putR_len ha h]; exact (sizeR_bounds h).2.1
  · rw [putR_none h]; simp

/-- the header that bytes begin with: how long it says that it is; where its parts begin; what is wrong ahead of them -/
def wideR (xs : List Int) : Nat := 8 * ((xs.getD 1 0).toNat + 1)
def manyR (xs : List Int) : Nat := (xs.getD 4 0).toNat + 1
def fromR (xs : List Int) : Nat := 8 + 16 * manyR xs
def aheadR (xs : List Int) : Int :=
  if xs.length < 8 then 3 else if xs.length < wideR xs then 3 else if xs.getD 2 0 ≠ 4 then 7 else if 10 < manyR xs then 8 else if wideR xs < fromR xs ∨ (manyR xs : Int) ≤ xs.getD 3 0 then 5 else 0
/-- bytes, 16 at a time -/
def chunksR : Nat → List Int → List (List Int)
  | 0, _ => []
  | k + 1, xs => xs.take 16 :: chunksR k (xs.drop 16)
def partsR (xs : List Int) : List Ob × Int := parseTL ((xs.take (wideR xs)).drop (fromR xs))
def saysR (xs : List Int) : Rb := ⟨xs.getD 0 0, xs.getD 3 0, xs.getD 5 0, num2 xs 6, chunksR (manyR xs) (xs.drop 8), (partsR xs).1⟩
def errR (xs : List Int) : Int := if aheadR xs = 0 then (partsR xs).2 else aheadR xs
def parseR (xs : List Int) : Rb := if errR xs = 0 then saysR xs else zeroRb
def lenR (xs : List Int) : Nat := if errR xs = 0 then wideR xs else 0

theorem chunksR_len : ∀ (k : Nat) (xs : List Int), (chunksR k xs).length = k
  | 0, _ => rfl
  | k + 1, xs => by simp [chunksR, chunksR_len k]
theorem chunksR_all : ∀ (k : Nat) {xs : List Int}, AllB xs → k * 16 ≤ xs.length → AllA (chunksR k xs)
  | 0, _, _, _ => AllA.nil
  | k + 1, xs, h, hl => .cons (by rw [List.length_take]; omega) (h.take 16) (chunksR_all k (h.drop 16) (by rw [List.length_drop]; omega))
theorem chunksR_take : ∀ (k : Nat) (xs : List Int), chunksR k (xs.take (k * 16)) = chunksR k xs
  | 0, _ => rfl
  | k + 1, xs => by
    unfold chunksR
    rw [List.take_take, List.drop_take, show (k + 1) * 16 - 16 = k * 16 by omega, chunksR_take k, show min 16 ((k + 1) * 16) = 16 by omega]
theorem chunksR_back : ∀ {l : List (List Int)}, AllA l → ∀ ys : List Int, chunksR l.length (l.flatten ++ ys) = l
  | [], _, _ => rfl
  | s :: l, h, ys => by
    have ih := chunksR_back (l := l) (fun x hx => h x (List.mem_cons_of_mem _ hx)) ys
    have hs := (h s List.mem_cons_self).1
    rw [List.length_cons, List.flatten_cons, chunksR, List.append_assoc, ← hs, List.take_left, List.drop_left, ih]
theorem chunksR_succ : ∀ (k : Nat) (xs : List Int), chunksR (k + 1) xs = chunksR k xs ++ [(xs.drop (k * 16)).take 16]
  | 0, xs => by simp [chunksR]
  | k + 1, xs => by
    rw [chunksR, chunksR_succ k, chunksR, List.drop_drop, show 16 + k * 16 = (k + 1) * 16 by omega]
    rfl
theorem chunksR_flat : ∀ (k : Nat) (xs : List Int), (chunksR k xs).flatten = xs.take (k * 16)
  | 0, xs => by simp [chunksR]
  | k + 1, xs => by
    rw [chunksR, List.flatten_cons, chunksR_flat k, show (k + 1) * 16 = 16 + k * 16 by omega, List.take_add]
theorem aheadR_err (xs : List Int) : 0 ≤ aheadR xs ∧ aheadR xs ≤ 8 := by
  unfold aheadR
  repeat' split
  all_goals omega
theorem aheadR_zero {xs : List Int} (h : aheadR xs = 0) : 8 ≤ xs.length ∧ wideR xs ≤ xs.length ∧ xs.getD 2 0 = 4 ∧ (1 ≤ manyR xs ∧ manyR xs ≤ 10) ∧ fromR xs ≤ wideR xs ∧ xs.getD 3 0 < manyR xs := by
  unfold aheadR at h
  have hm : 1 ≤ manyR xs := by unfold manyR; omega
  split at h
  · omega
  · split at h
    · omega
    · split at h
      · omega
      · split at h
        · omega
        · split at h
          · omega
          · rename_i h1 h2 h3 h4 h5
            exact ⟨by omega, by omega, by omega, ⟨hm, by omega⟩, by omega, by omega⟩
theorem partsR_range (xs : List Int) : 0 ≤ (partsR xs).2 ∧ (partsR xs).2 ≤ 3 := parseT_range _ _
theorem wideR_le {xs : List Int} (h : AllB xs) : wideR xs ≤ 2048 := by
  have := h.getD 1
  unfold wideR
  omega
theorem errR_range (xs : List Int) : 0 ≤ errR xs ∧ errR xs ≤ 8 := by
  have := aheadR_err xs
  have := partsR_range xs
  unfold errR
  split <;> omega
theorem errR_zero {xs : List Int} (h : errR xs = 0) : aheadR xs = 0 ∧ (partsR xs).2 = 0 := by
  unfold errR at h
  split at h
  · rename_i h1; exact ⟨h1, h⟩
  · rename_i h1; exact absurd h h1

/-- what was put is parsed as what it was, whatever stands behind it -/
theorem tagR_num {x : Int} (h : 0 ≤ x ∧ x ≤ 65535) : x / 256 % 256 * 256 + x % 256 = x := by omega
theorem parse_putR {x : Rb} (ha : AllA x.sg) (h : canR x = 0) (ys : List Int) : errR (putR x ++ ys) = 0 ∧ parseR (putR x ++ ys) = x ∧ lenR (putR x ++ ys) = sizeR x := by
  have hs := sizeR_bounds h
  have hfl := flatR_len ha
  obtain ⟨h1, h2, h3, h4⟩ := canR_zero h
  obtain ⟨b1, b2, b3, b4⟩ := fitR_spec h1
  have hpt := parse_putT h4 0 0
  have hp0 : padT 0 = [] := rfl
  rw [hp0, List.nil_append, List.append_nil] at hpt
  rw [putR_yes h]
  generalize hz : flatR x ++ ys = zs
  have hzl : zs.length = sizeR x + ys.length := by rw [← hz, List.length_append, hfl]
  have hze : zs = headR x ++ (x.sg.flatten ++ (putT x.tl ++ ys)) := by rw [← hz]; unfold flatR; simp
  have hg : ∀ i, i < 8 → zs.getD i 0 = (headR x).getD i 0 := fun i hi => by
    rw [hze]
    simp [List.getD, List.getElem?_append, headR_len, hi]
  have g0 : zs.getD 0 0 = x.nx := hg 0 (by omega)
  have g1 : zs.getD 1 0 = ((sizeR x : Nat) : Int) / 8 - 1 := hg 1 (by omega)
  have g2 : zs.getD 2 0 = 4 := hg 2 (by omega)
  have g3 : zs.getD 3 0 = x.le := hg 3 (by omega)
  have g4 : zs.getD 4 0 = (x.sg.length : Int) - 1 := hg 4 (by omega)
  have g5 : zs.getD 5 0 = x.fl := hg 5 (by omega)
  have g6 : zs.getD 6 0 = x.tg / 256 % 256 := hg 6 (by omega)
  have g7 : zs.getD 7 0 = x.tg % 256 := hg 7 (by omega)
  have hl : wideR zs = sizeR x := by unfold wideR; rw [g1]; omega
  have hm : manyR zs = x.sg.length := by unfold manyR; rw [g4]; omega
  have hf : fromR zs = 8 + 16 * x.sg.length := by unfold fromR; rw [hm]
  have hn : num2 zs 6 = x.tg := by
    unfold num2
    rw [g6, g7]
    exact tagR_num b4
  have hah : aheadR zs = 0 := by
    unfold aheadR
    rw [hl, hm, hf, g2, g3, if_neg (by omega), if_neg (by omega), if_neg (by simp), if_neg (by omega), if_neg (by unfold sizeR; omega)]
  have hpa : partsR zs = (x.tl, 0) := by
    unfold partsR
    rw [hl, hf]
    have e1 : zs.take (sizeR x) = flatR x := by rw [← hz, ← hfl, List.take_left]
    have e2 : (flatR x).drop (8 + 16 * x.sg.length) = putT x.tl := by
      unfold flatR
      have e3 : (headR x ++ x.sg.flatten).length = 8 + 16 * x.sg.length := by rw [List.length_append, headR_len, flatA_len ha]; omega
      rw [← e3, List.drop_left]
    rw [e1, e2]
    exact hpt
  have hch : chunksR (manyR zs) (zs.drop 8) = x.sg := by
    rw [hm, hze, ← headR_len x, List.drop_left]
    exact chunksR_back ha _
  have her : errR zs = 0 := by unfold errR; rw [if_pos hah, hpa]
  refine ⟨her, ?_, ?_⟩
  · unfold parseR saysR
    rw [if_pos her, g0, g3, g5, hn, hch, hpa]
  · unfold lenR
    rw [if_pos her, hl]
end Go.Proofs.YtjafjapnmffohaaGreatDoor

namespace Go.Proofs.YtjafjapnmffohaaGreatDoor
open Go.RowKit
set_option linter.unusedVariables false

/-- the slice at A, n long, holds the addresses l, below block B -/
structure As (w : World) (B : Nat) (A : Option Addr) (n : Nat) (l : List (List Int)) : Prop where
  len : l.length = n
  all : AllA l
  mem : 0 < n → ∃ b o, A = some ⟨b, o, none⟩ ∧ b < B ∧ ∀ j, j < n * 16 → w.cell? ⟨b, o + j, none⟩ = some (.int .u8 (l.flatten.getD j 0))
def AFrom (lo : Nat) (A : Option Addr) (n : Nat) : Prop := 0 < n → ∃ b p, A = some ⟨b, p, none⟩ ∧ lo ≤ b
theorem AFrom.nil (lo : Nat) (A : Option Addr) : AFrom lo A 0 := fun h => absurd h (by omega)
theorem AFrom.less {lo lo' n : Nat} {A : Option Addr} (h : AFrom lo A n) (hl : lo' ≤ lo) : AFrom lo' A n := fun hn => by
  obtain ⟨b, p, e, hb⟩ := h hn
  exact ⟨b, p, e, by omega⟩

section
variable {w w' : World} {B B' n lo : Nat} {A : Option Addr} {l : List (List Int)}
theorem As.nil (w : World) (B : Nat) (A : Option Addr) : As w B A 0 [] := ⟨rfl, AllA.nil, fun h => absurd h (by omega)⟩
theorem As.keep (h : As w B A n l) (hk : ∀ p : Addr, p.block < B → w'.cell? p = w.cell? p) : As w' B A n l :=
  ⟨h.len, h.all, fun hn => by
    obtain ⟨b, o, e, hb, hc⟩ := h.mem hn
    exact ⟨b, o, e, hb, fun i hi => (hk _ hb).trans (hc i hi)⟩⟩
theorem As.more (h : As w B A n l) (hB : B ≤ B') : As w B' A n l :=
  ⟨h.len, h.all, fun hn => by
    obtain ⟨b, o, e, hb, hc⟩ := h.mem hn
    exact ⟨b, o, e, by omega, hc⟩⟩
theorem As.below (h : As w B A n l) (hb : Below B w w') : As w' B A n l := h.keep fun _ hp => hb.cell hp
theorem As.below' (h : As w B A n l) (hb : Below B w w') (hB : B ≤ B') : As w' B' A n l := (h.below hb).more hB
theorem As.upper (h : As w B A n l) (hf : AFrom lo A n) (hk : ∀ p : Addr, lo ≤ p.block → p.block < B → w'.cell? p = w.cell? p) : As w' B A n l :=
  ⟨h.len, h.all, fun hn => by
    obtain ⟨b, o, e, hb, hc⟩ := h.mem hn
    obtain ⟨b', o', e', hl⟩ := hf hn
    rw [e] at e'
    injection e' with e'
    injection e' with e1 e2 _
    subst e1 e2
    exact ⟨b, o, e, hb, fun i hi => (hk _ hl hb).trans (hc i hi)⟩⟩
theorem As.flat (h : As w B A n l) : l.flatten.length = n * 16 := by rw [flatA_len h.all, h.len]
theorem As.src (h : As w B A n l) (hp : 0 < (cellsB l.flatten).length) : ∃ ad, A = some ad ∧ ∀ j v, (cellsB l.flatten)[j]? = some v → w.cell? (ad.add j) = some v := by
  rw [cellsB_length, h.flat] at hp
  obtain ⟨b, o, rfl, _, hc⟩ := h.mem (by omega)
  refine ⟨_, rfl, fun j v hv => ?_⟩
  have hj : j < l.flatten.length := by have := (List.getElem?_eq_some_iff.1 hv).1; rwa [cellsB_length] at this
  rw [cellsB_get hj] at hv
  rw [Addr.add_lit, hc j (by rw [← h.flat]; exact hj)]
  exact hv
theorem As.of_cells (hl : l.length = n) (ha : AllA l) {b o : Nat} (hb : b < B) (hc : ∀ j v, (cellsB l.flatten)[j]? = some v → w.cell? ⟨b, o + j, none⟩ = some v) : As w B (some ⟨b, o, none⟩) n l :=
  ⟨hl, ha, fun _ => ⟨b, o, rfl, hb, fun i hi => hc i _ (cellsB_get (by rw [flatA_len ha, hl]; exact hi))⟩⟩
/-- one of them -/
theorem As.at_ {b o : Nat} (h : As w B (some ⟨b, o, none⟩) n l) {i : Nat} (hi : i < n) : b < B ∧ w.rangeAt b (o + i * 16) (cellsB (l.getD i zero16)) := by
  obtain ⟨b', o', e, hb, hc⟩ := h.mem (by omega)
  injection e with e
  injection e with e1 e2 _
  subst e1 e2
  refine ⟨hb, fun j v hv => ?_⟩
  have hj : j < 16 := by
    have := (List.getElem?_eq_some_iff.1 hv).1
    rw [cellsB_length, (h.all.getD i).1] at this
    exact this
  rw [cellsB_get (by rw [(h.all.getD i).1]; exact hj)] at hv
  rw [← hv, Nat.add_assoc, hc (i * 16 + j) (by omega), flatA_get h.all (by rw [h.len]; exact hi) hj]
theorem As.one_ (w : World) (t : TypeId) (s : List Int) (hs : s.length = 16) (ha : AllB s) {B : Nat} (hB : w.heap.size < B) : As (w.alloc (.cells (cellsB s).toArray t)) B (some ⟨w.heap.size, 0, none⟩) 1 [s] :=
  As.of_cells rfl (.cons hs ha .nil) hB fun j v hv => by
    rw [Nat.zero_add, cell_of_row _ w.heap.size j _ t (0, 0) (heap_alloc_new w _)]
    simpa using hv
theorem As.of_blk {t : TypeId} {g : Nat} {s : List Int} (h : Blk w t g s) (hs : s.length = 16) (ha : AllB s) {B : Nat} (hB : g < B) : As w B (some ⟨g, 0, none⟩) 1 [s] :=
  As.of_cells rfl (.cons hs ha .nil) hB fun j v hv => by
    rw [Nat.zero_add, h.cell j]
    simpa using hv
end

/-- the slice (A, n, c) is a row of the call's own, from block 'base' on, and holds the addresses l -/
def OwnA (t : TypeId) (w : World) (base : Nat) (A : Option Addr) (n c : Nat) (l : List (List Int)) : Prop := w.ownsRow base t 16 (.slice A n c) n (cellsB l.flatten) ∧ AllA l ∧ l.length = n
section
variable {t : TypeId} {w w' : World} {base n c : Nat} {A : Option Addr} {l : List (List Int)}
theorem OwnA.lies (h : OwnA t w base A n c l) {B : Nat} (hB : w.heap.size ≤ B) : As w B A n l := by
  refine ⟨h.2.2, h.2.1, fun hn => ?_⟩
  obtain ⟨g, cap, hv, _, hlt⟩ := World.ownsRow.form h.1 hn
  have hA : A = some ⟨g, 0, none⟩ := by injection hv
  subst hA
  have hr : As w B (some ⟨g, 0, none⟩) n l := As.of_cells h.2.2 h.2.1 (by omega) fun j v hv => by
    have := World.ownsRow.cells h.1 (g := g) rfl j v hv
    simpa [Addr.add_lit] using this
  exact hr.mem hn
theorem OwnA.lt (h : OwnA t w base A n c l) : ∀ k, (Value.slice A n c).ownBlock = some k → base ≤ k ∧ k < w.heap.size := World.ownsRow.lt h.1
theorem OwnA.below (h : OwnA t w base A n c l) (hb : Below w.heap.size w w') : OwnA t w' base A n c l := by
  refine ⟨⟨h.1.1, ?_⟩, h.2⟩
  rcases h.1.2 with e | ⟨g, cap, cur, e, hbg, hg, r⟩
  · exact .inl e
  · exact .inr ⟨g, cap, cur, e, hbg, by rw [hb.block g (Array.getElem?_eq_some_iff.1 hg).1]; exact hg, r⟩
theorem OwnA.other (h : OwnA t w base A n c l) {g : Nat} (hg : g < base) (hk : ∀ k, k ≠ g → w'.heap[k]? = w.heap[k]?) : OwnA t w' base A n c l := by
  refine ⟨⟨h.1.1, ?_⟩, h.2⟩
  rcases h.1.2 with e | ⟨g', cap, cur, e, hbg, hg', r⟩
  · exact .inl e
  · exact .inr ⟨g', cap, cur, e, hbg, by rw [hk g' (by omega)]; exact hg', r⟩
theorem OwnA.none_ (t : TypeId) (w : World) (base : Nat) : OwnA t w base none 0 0 [] := ⟨⟨rfl, .inl ⟨rfl, rfl⟩⟩, AllA.nil, rfl⟩
theorem OwnA.from_ (h : OwnA t w base A n c l) : AFrom base A n := fun hn => by
  obtain ⟨g, cap, hv, hb, _⟩ := World.ownsRow.form h.1 hn
  injection hv with hA
  exact ⟨g, 0, hA, hb⟩
end

theorem run_append_none_a {P : Program} {w : World} {base : Nat} {t ty e : TypeId} {i : TypeInfo} (ht : P.underlying t = some (.slice e)) (hi : P.info? e = some i)
    {v : Value} {n : Nat} {xs : List Value} (hown : w.ownsRow base e 16 v n xs) (c : Nat) : (Builtin.append_ #[t, t] ty #[v, .slice none 0 c]).run P w = .ok v w := by
  rcases hown.2 with ⟨rfl, rfl⟩ | ⟨g, cap, cur, rfl, _, _, hnc, _⟩
  · simp [Builtin.append_, run_underlying ht, sizeOf, typeInfo, hi, Builtin.lenOf, Builtin.firstCells]
  · simp [Builtin.append_, run_underlying ht, sizeOf, typeInfo, hi, Builtin.lenOf, Builtin.firstCells, hnc, storeCells]

theorem run_append_as {P : Program} (w : World) (base : Nat) (t ty e : TypeId) (i : TypeInfo) (ht : P.underlying t = some (.slice e)) (hi : P.info? e = some i) (hz : i.zero = some (addrV zero16))
    (hsize : i.size = 16) (hby : i.bytes = 16) (A0 : Option Addr) (n c0 : Nat) (xs : List (List Int)) (hown : OwnA e w base A0 n c0 xs)
    (A : Option Addr) (m c : Nat) (B : Nat) (ys : List (List Int)) (hs : As w B A m ys) (hb : n + m ≤ 4294967296) (hbase : base ≤ w.heap.size) :
    ∃ A' c' w', (Builtin.append_ #[t, t] ty #[.slice A0 n c0, .slice A m c]).run P w = .ok (.slice A' (n + m) c') w' ∧ OwnA e w' base A' (n + m) c' (xs ++ ys) ∧
      w.grownBy w' (Value.slice A0 n c0).ownBlock ∧ ((Value.slice A' (n + m) c').ownBlock = (Value.slice A0 n c0).ownBlock ∨ (Value.slice A' (n + m) c').ownBlock = some w.heap.size) := by
  have hlen := hs.len
  cases A with
  | none =>
    have hm : m = 0 := by
      rcases Nat.eq_zero_or_pos m with h0 | h0
      · exact h0
      · obtain ⟨b, o, h, _⟩ := hs.mem h0
        cases h
    subst hm
    obtain rfl : ys = [] := List.eq_nil_of_length_eq_zero hlen
    exact ⟨A0, c0, w, run_append_none_a ht hi hown.1 c, by simpa using hown, World.grownBy.refl w _, .inl rfl⟩
  | some ad =>
    have hnews : ∀ j u, (cellsB ys.flatten)[j]? = some u → w.cell? (ad.add j) = some u := by
      intro j u hu
      have hpos : 0 < (cellsB ys.flatten).length := by have := (List.getElem?_eq_some_iff.1 hu).1; omega
      obtain ⟨ad', e1, h⟩ := hs.src hpos
      injection e1 with e1
      subst e1
      exact h j u hu
    obtain ⟨v', w', hrun, h2, h3, _, h5⟩ := run_append_own_at (P := P) w base t ty e i (addrV zero16) 16 16 ht hi hz hsize hby rfl (by omega) (.slice A0 n c0) n (cellsB xs.flatten) hown.1 ad m c (cellsB ys.flatten) (by rw [cellsB_length, hs.flat]) hnews (cellsB_one ys.flatten) (by simp only [maxLen]; omega) (by omega) hbase
    rw [← cellsB_append, ← List.flatten_append] at h2
    have hform : ∃ A' c', v' = .slice A' (n + m) c' := by
      rcases h2.2 with ⟨e1, e2⟩ | ⟨g, cap, cur, e1, _⟩
      · exact ⟨none, 0, by rw [e1, e2]⟩
      · exact ⟨_, _, e1⟩
    obtain ⟨A', c', rfl⟩ := hform
    exact ⟨A', c', w', hrun, ⟨h2, hown.2.1.append hs.all, by rw [List.length_append, hown.2.2, hlen]⟩, h3, h5⟩
theorem wp_append_as {P : Program} {w : World} {o : Oper} {a : Act} {K : Act → World → Prop} {Q : Exit → Act → World → Prop} (s x : Operand) (t : TypeId)
    (ho : o.op = .call { callee := .builtin .append, args := #[s, x], argTypes := #[t, t] })
    (base : Nat) (e : TypeId) (i : TypeInfo) (ht : P.underlying t = some (.slice e)) (hi : P.info? e = some i) (hz : i.zero = some (addrV zero16)) (hsize : i.size = 16) (hby : i.bytes = 16)
    (A0 : Option Addr) (n c0 : Nat) (xs : List (List Int)) (hs : a.eval s = .slice A0 n c0) (hown : OwnA e w base A0 n c0 xs)
    (A : Option Addr) (m c B : Nat) (ys : List (List Int)) (hx : a.eval x = .slice A m c) (hb : As w B A m ys) (hn : n + m ≤ 4294967296) (hbase : base ≤ w.heap.size)
    (h : ∀ A' c' w', OwnA e w' base A' (n + m) c' (xs ++ ys) → w.grownBy w' (Value.slice A0 n c0).ownBlock → ((Value.slice A' (n + m) c').ownBlock = (Value.slice A0 n c0).ownBlock ∨ (Value.slice A' (n + m) c').ownBlock = some w.heap.size) →
      K (a.put o.dst (.slice A' (n + m) c')) w') : o.wp P a w K Q := by
  obtain ⟨A', c', w', hrun, h2, h3, h4⟩ := run_append_as (P := P) w base t o.type e i ht hi hz hsize hby A0 n c0 xs hown A m c B ys hb hn hbase
  unfold Oper.wp execOp
  simp only [ho, resolve, invoke, builtin, Sem.run_bind, Sem.run_pure, Result.andThen_ok, List.map_toArray, List.map_cons, List.map_nil, hs, hx, hrun]
  exact h A' c' w' h2 h3 h4
theorem wpList_append_as {P : Program} {w : World} {ops : Array Oper} {rest : List Oper} {o : Oper} {a : Act} {Q : Exit → Act → World → Prop} (hgd : o.guard = none) (s x : Operand) (t : TypeId)
    (ho : o.op = .call { callee := .builtin .append, args := #[s, x], argTypes := #[t, t] })
    (base : Nat) (e : TypeId) (i : TypeInfo) (ht : P.underlying t = some (.slice e)) (hi : P.info? e = some i) (hz : i.zero = some (addrV zero16)) (hsize : i.size = 16) (hby : i.bytes = 16)
    (A0 : Option Addr) (n c0 : Nat) (xs : List (List Int)) (hs : a.eval s = .slice A0 n c0) (hown : OwnA e w base A0 n c0 xs)
    (A : Option Addr) (m c B : Nat) (ys : List (List Int)) (hx : a.eval x = .slice A m c) (hb : As w B A m ys) (hn : n + m ≤ 4294967296) (hbase : base ≤ w.heap.size)
    (h : ∀ A' c' w', OwnA e w' base A' (n + m) c' (xs ++ ys) → w.grownBy w' (Value.slice A0 n c0).ownBlock → ((Value.slice A' (n + m) c').ownBlock = (Value.slice A0 n c0).ownBlock ∨ (Value.slice A' (n + m) c').ownBlock = some w.heap.size) →
      wpList P ops Q rest (a.put o.dst (.slice A' (n + m) c')) w') : wpList P ops Q (o :: rest) a w :=
  wpList_plain hgd fun _ hK => wp_append_as s x t ho base e i ht hi hz hsize hby A0 n c0 xs hs hown A m c B ys hx hb hn hbase fun A' c' w' h2 h3 h4 => hK _ _ (h A' c' w' h2 h3 h4)
theorem info_addrR : (Tryz.prog.info? 24).map (fun i => (i.zero, i.size, i.bytes)) = some (some (addrV zero16), 16, 16) := by kernel_rfl

/-- a routing header as it lies -/
structure Sr where
  nx : Int
  le : Int
  fl : Int
  tg : Int
  gA : Option Addr
  gm : Nat
  gc : Nat
  sg : List (List Int)
  tA : Option Addr
  tm : Nat
  tc : Nat
  tl : List Od
def Sr.v (s : Sr) : Rb := ⟨s.nx, s.le, s.fl, s.tg, s.sg, s.tl.map Od.v⟩
structure Sr.ok (w : World) (B : Nat) (s : Sr) : Prop where
  nx : i64ok s.nx
  le : i64ok s.le
  fl : i64ok s.fl
  tg : i64ok s.tg
  gm : s.gm ≤ 140737488351232
  sg : As w B s.gA s.gm s.sg
  tm : s.tm ≤ 140737488351232
  tl : Os w B s.tA s.tm s.tl
structure Sr.from_ (lo : Nat) (s : Sr) : Prop where
  sg : AFrom lo s.gA s.gm
  tl : OFrom lo s.tA s.tm s.tl
section
variable {w w' : World} {B B' lo : Nat} {s : Sr}
theorem Sr.ok.keep (h : s.ok w B) (hk : ∀ p : Addr, p.block < B → w'.cell? p = w.cell? p) : s.ok w' B := ⟨h.nx, h.le, h.fl, h.tg, h.gm, h.sg.keep hk, h.tm, h.tl.keep hk⟩
theorem Sr.ok.more (h : s.ok w B) (hB : B ≤ B') : s.ok w B' := ⟨h.nx, h.le, h.fl, h.tg, h.gm, h.sg.more hB, h.tm, h.tl.more hB⟩
theorem Sr.ok.below' (h : s.ok w B) (hb : Below B w w') (hB : B ≤ B') : s.ok w' B' := (h.keep fun _ hp => hb.cell hp).more hB
theorem Sr.ok.low (h : s.ok w w.heap.size) (hb : Low w w') : s.ok w' w'.heap.size := h.below' hb hb.size
/-- what lies from block lo on is as it was, where nothing from there on has changed -/
theorem Os.upperR {n : Nat} {A : Option Addr} {os : List Od} (h : Os w B A n os) (hf : OFrom lo A n os) (hk : ∀ p : Addr, lo ≤ p.block → p.block < B → w'.cell? p = w.cell? p) : Os w' B A n os :=
  ⟨h.len, fun o ho => ⟨(h.all o ho).1, (h.all o ho).2.1, (h.all o ho).2.2.len, (h.all o ho).2.2.all, fun hn => by
    obtain ⟨b, p, e, hb, hc⟩ := (h.all o ho).2.2.mem hn
    obtain ⟨b', p', e', hl⟩ := hf.2 o ho hn
    rw [e] at e'
    injection e' with e'
    injection e' with e1 e2 _
    subst e1 e2
    exact ⟨b, p, e, hb, fun i hi => (hk _ hl hb).trans (hc i hi)⟩⟩, fun hn => by
    obtain ⟨b, p, e, hb, hc⟩ := h.mem hn
    obtain ⟨b', p', e', hl⟩ := hf.1 hn
    rw [e] at e'
    injection e' with e'
    injection e' with e1 e2 _
    subst e1 e2
    exact ⟨b, p, e, hb, fun i hi => ⟨(hk _ hl hb).trans (hc i hi).1, (hk _ hl hb).trans (hc i hi).2⟩⟩⟩
theorem Sr.ok.upper (h : s.ok w B) (hf : s.from_ lo) (hk : ∀ p : Addr, lo ≤ p.block → p.block < B → w'.cell? p = w.cell? p) : s.ok w' B :=
  ⟨h.nx, h.le, h.fl, h.tg, h.gm, h.sg.upper hf.sg hk, h.tm, h.tl.upperR hf.tl hk⟩
end

def srC (s : Sr) : List Value := [.int .i64 s.nx, .int .i64 s.le, .int .i64 s.fl, .int .i64 s.tg, .slice s.gA s.gm s.gc, .slice s.tA s.tm s.tc]
def srV (s : Sr) : Value := .agg (srC s).toArray
def zeroSr : Sr := ⟨0, 0, 0, 0, none, 0, 0, [], none, 0, 0, []⟩
theorem zeroSr_ok (w : World) (B : Nat) : zeroSr.ok w B := ⟨by simp [zeroSr, i64ok], by simp [zeroSr, i64ok], by simp [zeroSr, i64ok], by simp [zeroSr, i64ok], by simp [zeroSr], As.nil _ _ _, by simp [zeroSr], Os.nil _ _ _⟩
theorem srC_one (s : Sr) : (srC s).toArray.all (·.oneCell') = true := by simp [srC, Value.oneCell']
theorem sr_size : (Tryz.prog.info? 30).map (·.size) = some 6 := by kernel_rfl
theorem sr_zero : (Tryz.prog.info? 30).map (·.zero) = some (some (.agg (srC zeroSr).toArray)) := by kernel_rfl
/-- block g is just the header s -/
abbrev BlkR (w : World) (g : Nat) (s : Sr) : Prop := BlkV w 30 g (srC s)
theorem BlkR.cells {w : World} {g : Nat} {s : Sr} (h : BlkR w g s) :
    w.cell? ⟨g, 0, none⟩ = some (.int .i64 s.nx) ∧ w.cell? ⟨g, 1, none⟩ = some (.int .i64 s.le) ∧ w.cell? ⟨g, 2, none⟩ = some (.int .i64 s.fl) ∧ w.cell? ⟨g, 3, none⟩ = some (.int .i64 s.tg) ∧
    w.cell? ⟨g, 4, none⟩ = some (.slice s.gA s.gm s.gc) ∧ w.cell? ⟨g, 5, none⟩ = some (.slice s.tA s.tm s.tc) :=
  ⟨h.cell 0, h.cell 1, h.cell 2, h.cell 3, h.cell 4, h.cell 5⟩
section
variable {ops : Array Oper} {rest : List Oper} {o : Oper} {a : Act} {w : World} {Q : Exit → Act → World → Prop}
theorem wpList_box_sr (hgd : o.guard = none) (x : Operand) (ho : o.op = .box 30 x) (s : Sr) (hx : a.eval x = .agg (srC s).toArray)
    (hk : ∀ w', BlkR w' w.heap.size s → Low w w' → w'.heap.size = w.heap.size + 1 → wpList Tryz.prog ops Q rest (a.put o.dst (.pointer (some ⟨w.heap.size, 0, none⟩))) w') : wpList Tryz.prog ops Q (o :: rest) a w :=
  wpList_box_v hgd 30 x ho (srC s) hx hk
theorem wpList_alloc_sr (hgd : o.guard = none) (ho : o.op = .alloc 30)
    (hk : ∀ w', BlkR w' w.heap.size zeroSr → Low w w' → w'.heap.size = w.heap.size + 1 → wpList Tryz.prog ops Q rest (a.put o.dst (.pointer (some ⟨w.heap.size, 0, none⟩))) w') : wpList Tryz.prog ops Q (o :: rest) a w :=
  wpList_alloc_v hgd 30 ho (srC zeroSr) sr_zero hk
theorem wpList_load_sr (hgd : o.guard = none) (x : Operand) (ho : o.op = .load 30 x) (g : Nat) (hx : a.eval x = .pointer (some ⟨g, 0, none⟩)) (s : Sr) (hb : BlkR w g s)
    (hk : wpList Tryz.prog ops Q rest (a.put o.dst (.agg (srC s).toArray)) w) : wpList Tryz.prog ops Q (o :: rest) a w :=
  wpList_load_row hgd 30 x ho g hx _ (srC s).toArray (0, 0) _ hb Tryz.underlying30 rfl (by rw [sr_size]; rfl) hk
theorem wpList_load_sr_g (hw : Region.wanted o (yielded ops a.tmps) = true) (x : Operand) (ho : o.op = .load 30 x) (g : Nat) (hx : a.eval x = .pointer (some ⟨g, 0, none⟩)) (s : Sr) (hb : BlkR w g s)
    (hk : wpList Tryz.prog ops Q rest (a.put o.dst (.agg (srC s).toArray)) w) : wpList Tryz.prog ops Q (o :: rest) a w :=
  wpList_step fun K hK => by
    simp only [hw, if_true]
    exact wp_load_row 30 x ho g hx _ (srC s).toArray (0, 0) _ hb Tryz.underlying30 rfl (by rw [sr_size]; rfl) (hK _ _ hk)
/-- a whole header is stored: no other block changes -/
theorem wpList_store_sr (hgd : o.guard = none) (x y : Operand) (ho : o.op = .store 30 x y) (g : Nat) (hx : a.eval x = .pointer (some ⟨g, 0, none⟩)) (s : Sr) (hy : a.eval y = .agg (srC s).toArray) (old : Sr) (hb : BlkR w g old)
    (hk : ∀ w', BlkR w' g s → Below g w w' → (∀ p : Addr, p.block ≠ g → w'.cell? p = w.cell? p) → w'.heap.size = w.heap.size → wpList Tryz.prog ops Q rest (a.put o.dst undef) w') : wpList Tryz.prog ops Q (o :: rest) a w :=
  wpList_store_row hgd 30 x y ho g _ hx hy _ _ hb (by rw [sr_size]; rfl) rfl (srC_one s) (hk _ (BlkV.setRow hb _) (low_setRow _ _ _ (Nat.le_refl _)) (fun p hp => World.cell?_of_block (by simp [World.setRow, Array.getElem?_modify, Ne.symm hp])) (by simp))
/-- one address of a slice is read -/
theorem wpList_load_at (hgd : o.guard = none) (x : Operand) (ho : o.op = .load 24 x) (b p : Nat) (hx : a.eval x = .pointer (some ⟨b, p, none⟩)) (s : List Int) (hs : s.length = 16) (hc : w.rangeAt b p (cellsB s))
    (hk : wpList Tryz.prog ops Q rest (a.put o.dst (.agg (cellsB s).toArray)) w) : wpList Tryz.prog ops Q (o :: rest) a w :=
  wpList_load_mid hgd 24 x ho b p hx (cellsB s) _ hc Tryz.underlying24 rfl (by rw [addr_size]; simp [cellsB_length, hs]) hk
end
theorem exec_load_sr {f : Operand → Value} {dd : Option Tmp} {x : Operand} {ty : TypeId} {pos : String} {gd : Option (Nat × Bool)} {w : World} {g : Nat} {s : Sr} (hx : f x = .pointer (some ⟨g, 0, none⟩)) (hb : BlkR w g s) :
    (execOp f ⟨dd, .load 30 x, ty, pos, #[], gd⟩).run Tryz.prog w = .ok (.value (.agg (srC s).toArray)) w := by
  unfold execOp
  simp only [hx, Instr.loadAt, Instr.sureAddr, Sem.run_bind, Sem.run_pure, Result.andThen_ok, run_loadVar_row w g 30 30 (srC s).toArray _ _ hb Tryz.underlying30 rfl (by rw [sr_size]; rfl)]
theorem exec_load_at {f : Operand → Value} {dd : Option Tmp} {x : Operand} {ty : TypeId} {pos : String} {gd : Option (Nat × Bool)} {w : World} {b p : Nat} {s : List Int} (hx : f x = .pointer (some ⟨b, p, none⟩)) (hs : s.length = 16) (hc : w.rangeAt b p (cellsB s)) :
    (execOp f ⟨dd, .load 24 x, ty, pos, #[], gd⟩).run Tryz.prog w = .ok (.value (.agg (cellsB s).toArray)) w := by
  unfold execOp
  simp only [hx, Instr.loadAt, Instr.sureAddr, Sem.run_bind, Sem.run_pure, Result.andThen_ok, run_loadVar_mid w b p 24 (cellsB s) _ hc Tryz.underlying24 rfl (by rw [addr_size]; simp [cellsB_length, hs])]
theorem rangeAt_below {w w' : World} {B b p : Nat} {cs : List Value} (h : w.rangeAt b p cs) (hb : Below B w w') (hlt : b < B) : w'.rangeAt b p cs := fun j v hv => (hb.cell (p := ⟨b, p + j, none⟩) hlt).trans (h j v hv)
end Go.Proofs.YtjafjapnmffohaaGreatDoor

namespace Go.Proofs.YtjafjapnmffohaaGreatDoor
open Go.RowKit
set_option linter.unusedVariables false

/-- has a header few segments and parts? -/
def smallR (s : Sr) : Bool := decide (s.gm ≤ 40) && decide (s.tm ≤ 200)
/-- the segment at a place, and is there one? -/
def thereR (l : List (List Int)) (k : Int) : Bool := decide (0 ≤ k ∧ k < l.length)
def segR (l : List (List Int)) (k : Int) : List Int := if thereR l k = true then l.getD k.toNat zero16 else zero16
theorem ret_addrR {fn : Func} {p q : Tmp} {R : Ending → World → Prop} {tmps : Array Value} {df : List Deferred} {w : World} {g : Nat} {t : TypeId} {s : List Int} {b : Bool} (hfn : fn.results = #[.cell p 24, .tmp q]) (hp : tmps.getD p undef = .pointer (some ⟨g, 0, none⟩)) (hq : tmps.getD q undef = .bool b)
    (hb : Blk w t g s) (hs : s.length = 16) (hR : R (.returned (.tuple #[addrV s, .bool b])) w) (hd : df = []) : bodyPost Tryz.prog fn R .ret ⟨tmps, df⟩ w :=
  bodyPost_ret (results_cell_tmp hfn tmps w g _ _ _ _ _ hp hq hb Tryz.underlying24 rfl (by rw [addr_size]; simp [cellsB_length, hs])) hd hR
theorem zero16_V : Value.agg (cellsB zero16).toArray = .agg #[.int .u8 0, .int .u8 0, .int .u8 0, .int .u8 0, .int .u8 0, .int .u8 0, .int .u8 0, .int .u8 0, .int .u8 0, .int .u8 0, .int .u8 0, .int .u8 0, .int .u8 0, .int .u8 0, .int .u8 0, .int .u8 0] := rfl
theorem addr_zeroR : (Tryz.prog.info? 24).map (·.zero) = some (some (.agg (cellsB zero16).toArray)) := by kernel_rfl

set_option maxRecDepth 100000 in
set_option maxHeartbeats 800000 in
theorem segment_any (A : Option Addr) (n c : Nat) (l : List (List Int)) (k : Int) (w : World) (hn : n ≤ 140737488351232) (hk : i64ok k) (h : As w w.heap.size A n l) :
    Calls Tryz.prog 53 #[.slice A n c, .int .i64 k] w fun e w' => e = .returned (.tuple #[addrV (segR l k), .bool (thereR l k)]) ∧ Below w.heap.size w w' := by
  unfold i64ok at hk
  have hlen := h.len
  by_cases hth : 0 ≤ k ∧ k < n
  · obtain ⟨i, rfl⟩ : ∃ i : Nat, k = i := ⟨k.toNat, by omega⟩
    have hi : i < n := by omega
    have HX := Lib.hid (show thereR l (i : Int) = true by unfold thereR; rw [decide_eq_true]; omega)
    have HS := Lib.hid (show segR l (i : Int) = l.getD i zero16 by unfold segR; rw [if_pos HX.out]; rfl)
    obtain ⟨b, o, rfl, -, -⟩ := h.mem (by omega)
    obtain ⟨hbl, hr⟩ := h.at_ hi
    have hl16 := (h.all.getD i).1
    generalize l.getD i zero16 = s at *
    have d1 : decide ((n : Int) ≤ i) = false := by simp; omega
    have HR := Lib.hid hr
    clear h hr hlen hth
    go_enter Tryz.func53, Tryz.ntmps53
    go_wp2_with ((with_reducible refine wpList_alloc_v rfl 24 rfl (cellsB zero16) addr_zeroR ?_); intro w1 HZ0 hL hz1; refine Hid.out ?_)
    refine Lib.hid ?_
    have HZ : Hid (Blk w1 24 w.heap.size zero16) := Lib.hid HZ0
    have HR1 := Lib.hid (rangeAt_below HR.out hL hbl)
    clear HZ0 hz1 HR
    go_wp2_with (first | (with_reducible refine wpList_load_at rfl (.tmp 17) rfl b (o + i * 16) rfl s hl16 HR1.out ?_) | (with_reducible refine wpList_store_addr rfl (.tmp 4) (.tmp 18) rfl w.heap.size rfl s rfl _ zero16 HZ.out rfl hl16 ?_; intro w2 HG hb2 hz2; refine Hid.out ?_))
    refine Lib.hid ?_
    replace HG := Lib.hid HG
    go_wp2_with fail
    exact ret_addrR Tryz.results53 rfl rfl HG.out hl16 ⟨by rw [HX.out, HS.out], Below.trans hL hb2⟩ rfl
  · have HX := Lib.hid (show thereR l k = false by unfold thereR; rw [decide_eq_false]; omega)
    have HS := Lib.hid (show segR l k = zero16 by unfold segR; rw [HX.out]; rfl)
    clear h hlen
    by_cases h0 : k < 0
    · clear hth
      have d0 : decide (k < 0) = true := by simpa using h0
      go_enter Tryz.func53, Tryz.ntmps53
      go_wp2_with ((with_reducible refine wpList_alloc_v rfl 24 rfl (cellsB zero16) addr_zeroR ?_); intro w1 HZ0 hL hz1; refine Hid.out ?_)
      refine Lib.hid ?_
      have HZ : Hid (Blk w1 24 w.heap.size zero16) := Lib.hid HZ0
      clear HZ0 hz1
      go_wp2_with (refine wpList_store_addr rfl (.tmp 4) (.tmp 14) rfl w.heap.size rfl zero16 rfl _ zero16 HZ.out rfl rfl ?_; intro w2 HG hb2 hz2; refine Hid.out ?_)
      refine Lib.hid ?_
      replace HG := Lib.hid HG
      go_wp2_with fail
      exact ret_addrR Tryz.results53 rfl rfl HG.out rfl ⟨by rw [HX.out, HS.out], Below.trans hL hb2⟩ rfl
    · have d0 : decide (k < 0) = false := by simpa using h0
      have d1 : decide ((n : Int) ≤ k) = true := by simp; omega
      clear hth
      go_enter Tryz.func53, Tryz.ntmps53
      go_wp2_with ((with_reducible refine wpList_alloc_v rfl 24 rfl (cellsB zero16) addr_zeroR ?_); intro w1 HZ0 hL hz1; refine Hid.out ?_)
      refine Lib.hid ?_
      have HZ : Hid (Blk w1 24 w.heap.size zero16) := Lib.hid HZ0
      clear HZ0 hz1
      go_wp2_with (refine wpList_store_addr rfl (.tmp 4) (.tmp 14) rfl w.heap.size rfl zero16 rfl _ zero16 HZ.out rfl rfl ?_; intro w2 HG hb2 hz2; refine Hid.out ?_)
      refine Lib.hid ?_
      replace HG := Lib.hid HG
      go_wp2_with fail
      exact ret_addrR Tryz.results53 rfl rfl HG.out rfl ⟨by rw [HX.out, HS.out], Below.trans hL hb2⟩ rfl

theorem segR_len {l : List (List Int)} (h : AllA l) (k : Int) : (segR l k).length = 16 := by
  unfold segR
  split
  · exact (h.getD _).1
  · rfl
set_option maxRecDepth 100000 in
set_option maxHeartbeats 800000 in
theorem active_any (s : Sr) (w : World) (hs : s.ok w w.heap.size) :
    Calls Tryz.prog 30 #[srV s] w fun e w' => e = .returned (.tuple #[addrV (segR s.sg s.le), .bool (thereR s.sg s.le)]) ∧ Below w.heap.size w w' := by
  unfold srV
  have HO := Lib.hid hs
  have HL16 := Lib.hid (segR_len hs.sg.all s.le)
  clear hs
  go_enter Tryz.func30, Tryz.ntmps30
  go_wp2_with (first | ((with_reducible refine wpList_box_sr rfl (.tmp 0) rfl s rfl ?_); intro w1 HB hL hz1) | ((with_reducible refine wpList_alloc_v rfl 24 rfl (cellsB zero16) addr_zeroR ?_); intro w2 HZ0 hL2 hz2; refine Hid.out ?_))
  refine Lib.hid ?_
  rw [hz1] at HZ0
  have HZ : Hid (Blk w2 24 (w.heap.size + 1) zero16) := Lib.hid HZ0
  replace HB := HB.below hL2 HB.lt
  replace hL : Low w w2 := hL.trans hL2
  obtain ⟨c0, c1, c2, c3, c4, c5⟩ := BlkR.cells HB
  clear HZ0 hz1 hz2 hL2 c0 c2 c3 c5 HB
  go_wp2_with fail
  refine (segment_any s.gA s.gm s.gc s.sg s.le w2 HO.out.gm HO.out.le (HO.out.low hL).sg).mono ?_
  rintro e w3 ⟨rfl, hB3⟩
  replace HZ := Lib.hid (HZ.out.below hB3 HZ.out.lt)
  replace hL := hL.trans hB3
  obtain ⟨x, hx⟩ : ∃ x, x = segR s.sg s.le := ⟨_, rfl⟩
  obtain ⟨y, hy⟩ : ∃ y, y = thereR s.sg s.le := ⟨_, rfl⟩
  rw [← hx] at HL16 ⊢
  rw [← hy]
  have HX := Lib.hid hx
  have HY := Lib.hid hy
  clear hx hy
  clear c1 c4 hB3
  unfold addrV
  go_wp2_with (refine wpList_store_addr rfl (.tmp 2) (.tmp 9) rfl (w.heap.size + 1) rfl x rfl _ zero16 HZ.out rfl HL16.out ?_; intro w4 HG hb4 hz4; refine Hid.out ?_)
  refine Lib.hid ?_
  replace HG := Lib.hid HG
  go_wp2_with fail
  exact ret_addrR Tryz.results30 rfl rfl HG.out HL16.out ⟨by rw [HX.out, HY.out], Below.trans hL (hb4.mono (by omega))⟩ rfl
set_option maxRecDepth 100000 in
set_option maxHeartbeats 800000 in
theorem final_any (s : Sr) (w : World) (hs : s.ok w w.heap.size) :
    Calls Tryz.prog 31 #[srV s] w fun e w' => e = .returned (.tuple #[addrV (segR s.sg 0), .bool (thereR s.sg 0)]) ∧ Below w.heap.size w w' := by
  unfold srV
  have HO := Lib.hid hs
  have HL16 := Lib.hid (segR_len hs.sg.all 0)
  clear hs
  go_enter Tryz.func31, Tryz.ntmps31
  go_wp2_with (first | ((with_reducible refine wpList_box_sr rfl (.tmp 0) rfl s rfl ?_); intro w1 HB hL hz1) | ((with_reducible refine wpList_alloc_v rfl 24 rfl (cellsB zero16) addr_zeroR ?_); intro w2 HZ0 hL2 hz2; refine Hid.out ?_))
  refine Lib.hid ?_
  rw [hz1] at HZ0
  have HZ : Hid (Blk w2 24 (w.heap.size + 1) zero16) := Lib.hid HZ0
  replace HB := HB.below hL2 HB.lt
  replace hL : Low w w2 := hL.trans hL2
  obtain ⟨c0, c1, c2, c3, c4, c5⟩ := BlkR.cells HB
  clear HZ0 hz1 hz2 hL2 c0 c1 c2 c3 c5 HB
  go_wp2_with fail
  refine (segment_any s.gA s.gm s.gc s.sg 0 w2 HO.out.gm (by unfold i64ok; omega) (HO.out.low hL).sg).mono ?_
  rintro e w3 ⟨rfl, hB3⟩
  replace HZ := Lib.hid (HZ.out.below hB3 HZ.out.lt)
  replace hL := hL.trans hB3
  obtain ⟨x, hx⟩ : ∃ x, x = segR s.sg 0 := ⟨_, rfl⟩
  obtain ⟨y, hy⟩ : ∃ y, y = thereR s.sg 0 := ⟨_, rfl⟩
  rw [← hx] at HL16 ⊢
  rw [← hy]
  have HX := Lib.hid hx
  have HY := Lib.hid hy
  clear hx hy
  clear c4 hB3
  unfold addrV
  go_wp2_with (refine wpList_store_addr rfl (.tmp 2) (.tmp 7) rfl (w.heap.size + 1) rfl x rfl _ zero16 HZ.out rfl HL16.out ?_; intro w4 HG hb4 hz4; refine Hid.out ?_)
  refine Lib.hid ?_
  replace HG := Lib.hid HG
  go_wp2_with fail
  exact ret_addrR Tryz.results31 rfl rfl HG.out HL16.out ⟨by rw [HX.out, HY.out], Below.trans hL (hb4.mono (by omega))⟩ rfl
end Go.Proofs.YtjafjapnmffohaaGreatDoor

namespace Go.Proofs.YtjafjapnmffohaaGreatDoor
open Go.RowKit
set_option linter.unusedVariables false

def numsR (x : Rb) : List Int := [x.nx, x.le, x.fl, x.tg]
def topR (k : Nat) : Int := if k = 3 then 65535 else 255
def insR (l : List Int) (k : Nat) : Prop := ∀ j, j < k → 0 ≤ l.getD j 0 ∧ l.getD j 0 ≤ topR j
theorem insR_zero (l : List Int) : insR l 0 := fun j h => absurd h (by omega)
theorem insR_succ {l : List Int} {k : Nat} (h : insR l k) (h0 : 0 ≤ l.getD k 0) (h1 : l.getD k 0 ≤ topR k) : insR l (k + 1) := fun j hj => by
  rcases Nat.lt_or_ge j k with h2 | h2
  · exact h j h2
  · obtain rfl : j = k := by omega
    exact ⟨h0, h1⟩
theorem fitR_false {x : Rb} {k : Nat} (hk : k < 4) (h : ¬ (0 ≤ (numsR x).getD k 0 ∧ (numsR x).getD k 0 ≤ topR k)) : canR x = 2 := by
  have hf : fitR x = false := by
    unfold fitR
    rw [decide_eq_false_iff_not]
    rintro ⟨h1, h2, h3, h4⟩
    apply h
    obtain rfl | rfl | rfl | rfl : k = 0 ∨ k = 1 ∨ k = 2 ∨ k = 3 := by omega
    · exact h1
    · exact h2
    · exact h3
    · exact h4
  unfold canR
  rw [hf]
  rfl
theorem fitR_true {x : Rb} (h : insR (numsR x) 4) : canR x = if x.sg.length = 0 ∨ 10 < x.sg.length then 8 else if (x.sg.length : Int) ≤ x.le then 5 else canT x.tl := by
  have hf : fitR x = true := by
    unfold fitR
    rw [decide_eq_true_iff]
    exact ⟨h 0 (by omega), h 1 (by omega), h 2 (by omega), h 3 (by omega)⟩
  unfold canR
  rw [hf]
  rfl

end Go.Proofs.YtjafjapnmffohaaGreatDoor

namespace Go.Proofs.YtjafjapnmffohaaGreatDoor
open Go.RowKit
set_option linter.unusedVariables false

/-- a header as it is laid: with the bytes of its parts -/
def laidC (s : Sr) (pA : Option Addr) (pn pc : Nat) : List Value := [.int .i64 s.nx, .int .i64 s.le, .int .i64 s.fl, .int .i64 s.tg, .slice s.gA s.gm s.gc, .slice s.tA s.tm s.tc, .slice pA pn pc]
def laidV (s : Sr) (pA : Option Addr) (pn pc : Nat) : Value := .agg (laidC s pA pn pc).toArray
theorem laidC_one (s : Sr) (pA : Option Addr) (pn pc : Nat) : (laidC s pA pn pc).toArray.all (·.oneCell') = true := by simp [laidC, Value.oneCell']
section
variable {ops : Array Oper} {rest : List Oper} {o : Oper} {a : Act} {w : World} {Q : Exit → Act → World → Prop}
end
theorem Bs.upperR {w w' : World} {B n lo : Nat} {A : Option Addr} {xs : List Int} (h : Bs w B A n xs) (hf : AFrom lo A n) (hk : ∀ p : Addr, lo ≤ p.block → p.block < B → w'.cell? p = w.cell? p) : Bs w' B A n xs :=
  ⟨h.len, h.all, fun hn => by
    obtain ⟨b, o, e, hb, hc⟩ := h.mem hn
    obtain ⟨b', o', e', hl⟩ := hf hn
    rw [e] at e'
    injection e' with e'
    injection e' with e1 e2 _
    subst e1 e2
    exact ⟨b, o, e, hb, fun i hi => (hk _ hl hb).trans (hc i hi)⟩⟩
theorem OwnB.fromR {t : TypeId} {w : World} {base n c : Nat} {A : Option Addr} {ys : List Int} (h : OwnB t w base A n c ys) : AFrom base A n := fun hn => by
  obtain ⟨g, cap, hv, hb, _⟩ := World.ownsRow.form h.1 hn
  injection hv with hA
  exact ⟨g, 0, hA, hb⟩

/-- a header as it is laid, and why not -/
def GivesLd (w : World) (s : Sr) (e : Ending) (w' : World) : Prop :=
  ∃ t pA pn pc, e = .returned (.tuple #[laidV t pA pn pc, .int .i64 (canR s.v)]) ∧ (canR s.v = 0 → t = s ∧ Bs w' w'.heap.size pA pn (putT s.v.tl)) ∧ Below w.heap.size w w'
theorem GivesLd.no {w w' : World} {s : Sr} {x : Int} (hx : canR s.v = x) (h : x ≠ 0) (hB : Below w.heap.size w w') : GivesLd w s (.returned (.tuple #[laidV zeroSr none 0 0, .int .i64 x])) w' :=
  ⟨zeroSr, none, 0, 0, by rw [hx], fun h0 => absurd (hx.symm.trans h0) h, hB⟩
theorem GivesLd.yes {w w' : World} {s : Sr} {pA : Option Addr} {pn pc : Nat} (hx : canR s.v = 0) (hb : Bs w' w'.heap.size pA pn (putT s.v.tl)) (hB : Below w.heap.size w w') : GivesLd w s (.returned (.tuple #[laidV s pA pn pc, .int .i64 0])) w' :=
  ⟨s, pA, pn, pc, by rw [hx], fun _ => ⟨rfl, hb⟩, hB⟩

end Go.Proofs.YtjafjapnmffohaaGreatDoor

namespace Go.Proofs.YtjafjapnmffohaaGreatDoor
open Go.RowKit
set_option linter.unusedVariables false

/-- bytes of the call's own are handed back -/
def GivesFB (w : World) (ys : List Int) (e : Ending) (w' : World) : Prop :=
  ∃ A c, e = .returned (.slice A ys.length c) ∧ OwnB 5 w' w.heap.size A ys.length c ys ∧ Below w.heap.size w w'
theorem GivesFB.of {w w' : World} {ys zs : List Int} {A : Option Addr} {n c : Nat} (hy : ys = zs) (h : OwnB 5 w' w.heap.size A n c zs) (hB : Below w.heap.size w w') : GivesFB w ys (.returned (.slice A n c)) w' := by
  subst hy
  have hl := h.len
  subst hl
  exact ⟨A, c, rfl, h, hB⟩
theorem OwnB.lessR {t : TypeId} {w : World} {base base' n c : Nat} {A : Option Addr} {ys : List Int} (h : OwnB t w base A n c ys) (hb : base' ≤ base) : OwnB t w base' A n c ys := by
  refine ⟨⟨h.1.1, ?_⟩, h.2⟩
  rcases h.1.2 with e | ⟨g, cap, cur, e, hbg, hg, r⟩
  · exact .inl e
  · exact .inr ⟨g, cap, cur, e, by omega, hg, r⟩
theorem headR_wrap {x : Rb} (h : canR x = 0) : IntKind.u8.wrap x.nx = x.nx ∧ IntKind.u8.wrap x.le = x.le ∧ IntKind.u8.wrap x.fl = x.fl ∧ IntKind.u8.wrap ((x.sg.length : Int) - 1) = (x.sg.length : Int) - 1 ∧ IntKind.u8.wrap (((sizeR x : Nat) : Int) / 8 - 1) = ((sizeR x : Nat) : Int) / 8 - 1 := by
  have hs := sizeR_bounds h
  obtain ⟨h1, h2, h3, h4⟩ := canR_zero h
  obtain ⟨b1, b2, b3, b4⟩ := fitR_spec h1
  have hw : ∀ k : Int, 0 ≤ k → k < 256 → IntKind.u8.wrap k = k := fun k h0 h1 => by simp [IntKind.wrap, IntKind.bits, IntKind.signed]; omega
  exact ⟨hw _ (by omega) (by omega), hw _ (by omega) (by omega), hw _ (by omega) (by omega), hw _ (by omega) (by omega), hw _ (by omega) (by omega)⟩

end Go.Proofs.YtjafjapnmffohaaGreatDoor

namespace Go.Proofs.YtjafjapnmffohaaGreatDoor
open Go.RowKit
set_option linter.unusedVariables false

theorem take_succR {x : List Int} {k : Nat} (hx : x.length = 16) (hk : k < 16) : x.take (k + 1) = x.take k ++ [x.getD k 0] := by
  rw [List.take_succ_eq_append_getElem (show k < x.length by omega)]
  simp [List.getD, show k < x.length by omega]

end Go.Proofs.YtjafjapnmffohaaGreatDoor
