/- Texts joined.
  lives and plain of layer 11. No condition.
  The page's words on packets with a routing header: what such a packet is without it, and one segment on. No program here.
  A packet on its way by others, step by step, as functions of lists. No program here.
  The document's head and Header. Condition: at most 2^47 - 4096 bytes.
  The document's Remove. Condition: at most 2^47 - 4096 bytes.
  The document's Advance. Condition: at most 2^47 - 4096 bytes.
  The document's Insert. Condition: at most 2^47 - 4096 bytes, others and parts.
-/
import Derived.Test.YtjafjapnmffohaaGreatDoorJDt
import Derived.Test.YtjafjapnmffohaaGreatDoorJOct
import Derived.Test.YtjafjapnmffohaaGreatDoorJReg
import Derived.Test.YtjafjapnmffohaaGreatDoorJSy
import Derived.Test.YtjafjapnmffohaaGreatDoorJSrB
import Derived.Test.YtjafjapnmffohaaGreatDoorSlc
import Derived.Test.YtjafjapnmffohaaGreatDoorJSx
import Derived.Test.YtjafjapnmffohaaGreatDoorJSrA
set_option maxRecDepth 100000
namespace Go.Proofs.YtjafjapnmffohaaGreatDoor
open Go.RowKit
set_option linter.unusedVariables false

def seven16 : List Int := [0, 0, 0, 0, 0, 0, 0, 0, 0, 0, 0, 0, 0, 0, 0, 7]
def unit16 : List Int := [0, 0, 0, 0, 0, 0, 0, 0, 0, 0, 0, 0, 0, 0, 0, 1]
def plainH : Hd := ⟨0, 0, 3, 6, 9, zero16, seven16⟩
def plainL : List Int := headL plainH ++ [1, 2, 3]
theorem plainH_ok : plainH.ok := ⟨by unfold i64ok; decide, by unfold i64ok; decide, by unfold i64ok; decide, by unfold i64ok; decide, by unfold i64ok; decide, rfl, rfl, zero_all, fun x hx => by simp [plainH, seven16] at hx; omega⟩
theorem plain_put : putL plainH = headL plainH := by decide +kernel
theorem plain_ins : insE plainL [unit16] [] = 0 := by decide +kernel
theorem plain_len : (insL plainL [unit16] []).length = 83 := by decide +kernel
theorem plain_rem : hdrE (insL plainL [unit16] []) = 0 ∧ remL (insL plainL [unit16] []) = plainL := by decide +kernel
theorem plain_hdr : hdrE plainL = 7 ∧ hdrN plainL = 0 := by decide +kernel
theorem unit_all : AllA [unit16] := .cons rfl (fun x hx => by simp [unit16] at hx; omega) .nil
theorem plain_length : plainL.length = 43 := by decide +kernel

end Go.Proofs.YtjafjapnmffohaaGreatDoor

namespace Go.Proofs.YtjafjapnmffohaaGreatDoor
open Go.RowKit
set_option linter.unusedVariables false

theorem take8 : ∀ {xs : List Int}, 8 ≤ xs.length → xs.take 8 = [xs.getD 0 0, xs.getD 1 0, xs.getD 2 0, xs.getD 3 0, xs.getD 4 0, xs.getD 5 0, xs.getD 6 0, xs.getD 7 0]
  | [], h => by simp at h
  | [_], h => by simp at h
  | [_, _], h => by simp at h
  | [_, _, _], h => by simp at h
  | [_, _, _, _], h => by simp at h
  | [_, _, _, _, _], h => by simp at h
  | [_, _, _, _, _, _], h => by simp at h
  | [_, _, _, _, _, _, _], h => by simp at h
  | a :: b :: c :: d :: e :: f :: g :: k :: t, h => by simp
theorem headL_getL {xs : List Int} (ha : AllB xs) (hl : 40 ≤ xs.length) (h6 : xs.getD 0 0 / 16 = 6) : headL (getL xs) ++ xs.drop 40 = xs := by
  have e1 : xs = xs.take 8 ++ ((xs.drop 8).take 16 ++ ((xs.drop 24).take 16 ++ xs.drop 40)) := by
    have a1 : (xs.drop 24).take 16 ++ xs.drop 40 = xs.drop 24 := by
      have := List.take_append_drop 16 (xs.drop 24)
      rwa [List.drop_drop] at this
    have a2 : (xs.drop 8).take 16 ++ xs.drop 24 = xs.drop 8 := by
      have := List.take_append_drop 16 (xs.drop 8)
      rwa [List.drop_drop] at this
    rw [a1, a2, List.take_append_drop]
  have r0 := ha.getD 0
  have r1 := ha.getD 1
  have r2 := ha.getD 2
  have r3 := ha.getD 3
  have r4 := ha.getD 4
  have r5 := ha.getD 5
  have e2 : headL (getL xs) = xs.take 8 ++ ((xs.drop 8).take 16 ++ (xs.drop 24).take 16) := by
    rw [take8 (by omega), headL_split _ (getL_can ha)]
    unfold getL two
    simp only [List.cons_append, List.nil_append]
    generalize xs.getD 0 0 = x0 at *
    generalize xs.getD 1 0 = x1 at *
    generalize xs.getD 2 0 = x2 at *
    generalize xs.getD 3 0 = x3 at *
    generalize xs.getD 4 0 = x4 at *
    generalize xs.getD 5 0 = x5 at *
    congr 1
    · omega
    · congr 1
      · omega
      · congr 1
        · omega
        · congr 1
          · omega
          · congr 1
            · omega
            · congr 1
              omega
  rw [e2]
  conv => rhs; rw [e1]
  simp only [List.append_assoc]

/-- a packet of a fixed header, a routing header and bytes -/
structure Pk (h : Hd) (r : Rb) (zs : List Int) : Prop where
  ok : h.ok
  can : canB h = true
  nx : h.nx = 43
  ln : h.ln = ((putR r).length : Int) + (zs.length : Int)
  sg : AllA r.sg
  cr : canR r = 0
def pkL (h : Hd) (r : Rb) (zs : List Int) : List Int := headL h ++ (putR r ++ zs)
section
variable {h : Hd} {r : Rb} {zs : List Int} (p : Pk h r zs)
include p
theorem Pk.len : (pkL h r zs).length = 40 + (putR r).length + zs.length := by unfold pkL; rw [len_back p.ok, List.length_append]; omega
theorem Pk.getL : getL (pkL h r zs) = h := getL_back p.ok p.can
theorem Pk.getE : getE (pkL h r zs) = 0 := getE_back p.ok p.can
theorem Pk.drop : (pkL h r zs).drop 40 = putR r ++ zs := drop_back p.ok
theorem Pk.whole : wholeE (pkL h r zs) = 0 := by
  unfold wholeE
  rw [if_pos p.getE, p.getL, p.len, if_pos (by rw [p.ln]; omega)]
theorem Pk.says : hdrE (pkL h r zs) = 0 ∧ saysR ((pkL h r zs).drop 40) = r ∧ wideR ((pkL h r zs).drop 40) = (putR r).length := by
  obtain ⟨e1, e2, e3⟩ := parse_putR p.sg p.cr zs
  rw [p.drop]
  unfold parseR at e2
  unfold lenR at e3
  rw [if_pos e1] at e2 e3
  refine ⟨?_, e2, by rw [e3, putR_len p.sg p.cr]⟩
  unfold hdrE
  rw [if_pos p.whole, p.getL, if_pos p.nx, p.drop]
  exact e1
theorem Pk.rem : remL (pkL h r zs) = headL (sizedH (zs.length : Int) (toH (segR r.sg 0) (setNx r.nx h))) ++ zs := by
  obtain ⟨e1, e2, e3⟩ := p.says
  unfold remL offH
  rw [if_pos e1, e2, e3, p.getL, p.len, show 40 + (putR r).length + zs.length - (40 + (putR r).length) = zs.length by omega, ← List.drop_drop, p.drop, List.drop_left]
theorem Pk.adv_none (h0 : r.le = 0) : advE (pkL h r zs) = 10 := by
  obtain ⟨e1, e2, e3⟩ := p.says
  unfold advE
  rw [if_pos e1, e2, if_pos h0]
theorem putR_left {v : Int} (h0 : 0 ≤ v) (h1 : v < r.sg.length) : canR { r with le := v } = 0 ∧ (putR r).set 3 v = putR { r with le := v } := by
  obtain ⟨c1, c2, c3, c4⟩ := canR_zero p.cr
  obtain ⟨b1, b2, b3, b4⟩ := fitR_spec c1
  have hc : canR { r with le := v } = 0 := by
    unfold canR fitR
    dsimp only
    rw [if_pos (by rw [decide_eq_true_eq]; omega), if_neg (by omega), if_neg (by omega)]
    exact c4
  refine ⟨hc, ?_⟩
  rw [putR_yes p.cr, putR_yes hc]
  rfl
theorem Pk.adv (h0 : 0 < r.le) (h1 : 1 < h.hp) : advE (pkL h r zs) = 0 ∧ advL (pkL h r zs) = pkL (toH (segR r.sg (r.le - 1)) (nearH h)) { r with le := r.le - 1 } zs := by
  obtain ⟨e1, e2, e3⟩ := p.says
  obtain ⟨c1, c2, c3, c4⟩ := canR_zero p.cr
  have e4 : advE (pkL h r zs) = 0 := by
    unfold advE
    rw [if_pos e1, e2, if_neg (by omega), p.getL, if_neg (by omega)]
  refine ⟨e4, ?_⟩
  obtain ⟨f1, f2⟩ := putR_left p (v := r.le - 1) (by omega) (by omega)
  unfold advL advH
  rw [if_pos e4, e2, p.getL, p.drop]
  have hl := headL_length (toH_ok (nearH_ok p.ok h1) (segR_len p.sg (r.le - 1)) (segR_all p.sg (r.le - 1)))
  have hp := putR_len p.sg p.cr
  have hb := sizeR_bounds p.cr
  unfold pkL
  rw [List.set_append_right _ _ (by rw [hl]; omega), hl, List.set_append_left _ _ (by rw [hp]; omega), f2]
theorem Pk.next (h0 : 0 < r.le) (h1 : 1 < h.hp) : Pk (toH (segR r.sg (r.le - 1)) (nearH h)) { r with le := r.le - 1 } zs := by
  obtain ⟨c1, c2, c3, c4⟩ := canR_zero p.cr
  obtain ⟨f1, f2⟩ := putR_left p (v := r.le - 1) (by omega) (by omega)
  refine ⟨toH_ok (nearH_ok p.ok h1) (segR_len p.sg (r.le - 1)) (segR_all p.sg (r.le - 1)), toH_can (nearH_can p.can h1), p.nx, ?_, p.sg, f1⟩
  rw [← f2, List.length_set]
  exact p.ln
end

theorem insE_zero {xs : List Int} {l : List (List Int)} {tl : List Ob} (h : insE xs l tl = 0) : wholeE xs = 0 ∧ ¬ ((getL xs).nx = 43 ∨ (getL xs).nx = 0) ∧ (0 < l.length ∧ l.length ≤ 9) ∧ canR (viaR xs l tl) = 0 ∧ xs.length + (putR (viaR xs l tl)).length ≤ 1500 := by
  by_cases h1 : wholeE xs = 0
  · by_cases h2 : (getL xs).nx = 43 ∨ (getL xs).nx = 0
    · rw [insE_kind h1 h2] at h; omega
    · by_cases h3 : l.length = 0 ∨ 9 < l.length
      · rw [insE_many h1 h2 h3] at h; omega
      · by_cases h4 : canR (viaR xs l tl) = 0
        · by_cases h5 : 1500 < xs.length + (putR (viaR xs l tl)).length
          · rw [insE_long h1 h2 h3 h4 h5] at h; omega
          · exact ⟨h1, h2, by omega, h4, by omega⟩
        · rw [insE_can h1 h2 h3 h4] at h; exact absurd h h4
  · rw [insE_whole h1] at h; exact absurd h h1
theorem AllA.reverse {l : List (List Int)} (h : AllA l) : AllA l.reverse := fun s hs => h s (List.mem_reverse.1 hs)
/-- the packet by way of others is such a packet -/
def goH (xs : List Int) (l : List (List Int)) (tl : List Ob) : Hd := sizedH (((putR (viaR xs l tl)).length + (xs.length - 40) : Nat) : Int) (viaH xs l)
section
variable {xs : List Int} {l : List (List Int)} {tl : List Ob} (ha : AllB xs) (hv : AllA l) (h : insE xs l tl = 0)
include ha hv h
theorem ins_pk : Pk (goH xs l tl) (viaR xs l tl) (xs.drop 40) := by
  obtain ⟨h1, h2, h3, h4, h5⟩ := insE_zero h
  obtain ⟨g1, g2, g3, g4, g5⟩ := wholeE_zero h1
  obtain ⟨o1, o2⟩ := viaH_ok ha g2 hv
  refine ⟨sizedH_ok o1 (by unfold i64ok; omega), sizedH_can o2 (by omega) (by omega), rfl, ?_, ?_, h4⟩
  · show (((putR (viaR xs l tl)).length + (xs.length - 40) : Nat) : Int) = _
    rw [List.length_drop]; omega
  · exact (hv.append (.cons (getL_ok ha g2).d (getL_ok ha g2).vd .nil)).reverse
omit ha hv in
theorem ins_is : insL xs l tl = pkL (goH xs l tl) (viaR xs l tl) (xs.drop 40) := by
  unfold insL pkL goH
  rw [if_pos h]
theorem ins_len : (insL xs l tl).length ≤ 1500 := by
  obtain ⟨h1, h2, h3, h4, h5⟩ := insE_zero h
  have := (wholeE_zero h1).2.1
  rw [ins_is h, (ins_pk ha hv h).len, List.length_drop]
  omega
omit ha hv h in
theorem ins_last : segR (viaR xs l tl).sg 0 = (getL xs).d := by
  show segR (l ++ [(getL xs).d]).reverse 0 = _
  rw [List.reverse_append]
  have e : thereR ([(getL xs).d].reverse ++ l.reverse) 0 = true := by unfold thereR; rw [decide_eq_true_eq]; simp only [List.reverse_singleton, List.cons_append, List.length_cons]; omega
  unfold segR
  rw [if_pos e]
  rfl
theorem ins_back : hdrE (insL xs l tl) = 0 ∧ remL (insL xs l tl) = xs := by
  obtain ⟨h1, h2, h3, h4, h5⟩ := insE_zero h
  obtain ⟨g1, g2, g3, g4, g5⟩ := wholeE_zero h1
  have p := ins_pk ha hv h
  rw [ins_is h]
  refine ⟨p.says.1, ?_⟩
  rw [p.rem, ins_last]
  have e : sizedH ((xs.drop 40).length : Int) (toH (getL xs).d (setNx (viaR xs l tl).nx (goH xs l tl))) = getL xs := by
    have e1 : ((xs.drop 40).length : Int) = (getL xs).ln := by rw [List.length_drop, g5]; omega
    rw [e1]
    rfl
  rw [e]
  exact headL_getL ha g2 g3
end
end Go.Proofs.YtjafjapnmffohaaGreatDoor

namespace Go.Proofs.YtjafjapnmffohaaGreatDoor
open Go.RowKit
set_option linter.unusedVariables false

def hopH (i : Int) (h : Hd) : Hd := { h with hp := h.hp - i }
/-- the packet behind i steps: its fixed header, its routing header, its bytes; what it is without -/
def stH (xs : List Int) (l : List (List Int)) (i : Nat) : Hd := toH (if i < l.length then l.getD i zero16 else (getL xs).d) (hopH (i : Nat) (goH xs l []))
def stR (xs : List Int) (l : List (List Int)) (i : Nat) : Rb := { viaR xs l [] with le := (l.length : Int) - (i : Nat) }
def stL (xs : List Int) (l : List (List Int)) (i : Nat) : List Int := pkL (stH xs l i) (stR xs l i) (xs.drop 40)
def stW (xs : List Int) (i : Nat) : List Int := headL (hopH (i : Nat) (getL xs)) ++ xs.drop 40
theorem hopH_can {h : Hd} {i : Int} (hc : canB h = true) (h0 : 0 ≤ i) (h1 : i ≤ h.hp) : canB (hopH i h) = true := by
  have := can_range hc
  unfold canB hopH
  rw [decide_eq_true_eq]
  dsimp only
  omega
theorem hopH_ok {h : Hd} {i : Int} (hk : h.ok) (hi : i64ok (h.hp - i)) : (hopH i h).ok := ⟨hk.cl, hk.lb, hk.ln, hk.nx, hi, hk.s, hk.d, hk.vs, hk.vd⟩
theorem rev_at {l : List (List Int)} {d : List Int} {i : Nat} (hi : i ≤ l.length) : segR (l ++ [d]).reverse ((l.length : Int) - (i : Nat)) = if i < l.length then l.getD i zero16 else d := by
  have hl : (l ++ [d]).reverse.length = l.length + 1 := by simp
  have ht : thereR (l ++ [d]).reverse ((l.length : Int) - (i : Nat)) = true := by unfold thereR; rw [decide_eq_true_eq, hl]; omega
  unfold segR
  rw [if_pos ht, show ((l.length : Int) - (i : Nat)).toNat = l.length - i by omega]
  rw [List.getD_eq_getElem?_getD, List.getElem?_reverse (by simp; omega), List.length_append, List.length_singleton, show l.length + 1 - 1 - (l.length - i) = i by omega]
  by_cases h : i < l.length
  · rw [if_pos h, List.getElem?_append_left h, List.getD_eq_getElem?_getD]
  · rw [if_neg h, show i = l.length by omega, List.getElem?_append_right (Nat.le_refl _), Nat.sub_self]; rfl
theorem near_back {h : Hd} {ys : List Int} (hk : h.ok) (hc : canB h = true) (h1 : 1 < h.hp) : outE (headL h ++ ys) (neE (headL h ++ ys)) = 0 ∧ outL (headL h ++ ys) (neH (headL h ++ ys)) (neE (headL h ++ ys)) = headL (nearH h) ++ ys := by
  have e1 : neE (headL h ++ ys) = 0 := by unfold neE; rw [getL_back hk hc, if_neg (by omega)]
  have e2 : outE (headL h ++ ys) 0 = 0 := by unfold outE; rw [if_pos (getE_back hk hc)]
  rw [e1]
  refine ⟨e2, ?_⟩
  unfold outL neH
  rw [if_pos e2, getL_back hk hc, if_neg (by omega), putL_yes (nearH_can hc h1), drop_back hk]
section
variable {xs : List Int} {l : List (List Int)} (ha : AllB xs) (hv : AllA l) (h : insE xs l [] = 0) (hop : (l.length : Int) < (getL xs).hp)
include ha hv h hop
theorem st_pk {i : Nat} (hi : i ≤ l.length) : Pk (stH xs l i) (stR xs l i) (xs.drop 40) := by
  have p := ins_pk ha hv h
  obtain ⟨h1, h2, h3, h4, h5⟩ := insE_zero h
  have g2 := (wholeE_zero h1).2.1
  have hO := getL_ok ha g2
  have hr := can_range (getL_can ha)
  have hsg : (viaR xs l []).sg.length = l.length + 1 := by show (l ++ [(getL xs).d]).reverse.length = _; simp
  obtain ⟨f1, f2⟩ := putR_left p (v := (l.length : Int) - (i : Nat)) (by omega) (by rw [hsg]; omega)
  have hgo : (goH xs l []).hp = (getL xs).hp := rfl
  have hd16 : (if i < l.length then l.getD i zero16 else (getL xs).d).length = 16 := by split; exact (hv.getD i).1; exact hO.d
  have hda : AllB (if i < l.length then l.getD i zero16 else (getL xs).d) := by split; exact (hv.getD i).2; exact hO.vd
  refine ⟨toH_ok (hopH_ok p.ok (by rw [hgo]; unfold i64ok; omega)) hd16 hda, toH_can (hopH_can p.can (by omega) (by rw [hgo]; omega)), p.nx, ?_, p.sg, f1⟩
  have e : (putR (stR xs l i)).length = (putR (viaR xs l [])).length := by
    show (putR { viaR xs l [] with le := (l.length : Int) - (i : Nat) }).length = _
    rw [← f2, List.length_set]
  rw [e]
  exact p.ln
omit ha hv hop in
theorem st_zero : insL xs l [] = stL xs l 0 := by
  obtain ⟨h1, h2, h3, h4, h5⟩ := insE_zero h
  have e1 : stH xs l 0 = goH xs l [] := by
    unfold stH
    rw [if_pos h3.1]
    unfold hopH toH goH viaH sizedH toH
    dsimp only
    congr 1
    all_goals omega
  have e2 : stR xs l 0 = viaR xs l [] := by
    unfold stR viaR
    dsimp only
    congr 1
    all_goals omega
  rw [ins_is h]
  unfold stL
  rw [e1, e2]
theorem st_next {i : Nat} (hi : i < l.length) : advE (stL xs l i) = 0 ∧ advL (stL xs l i) = stL xs l (i + 1) := by
  have p := st_pk ha hv h hop (Nat.le_of_lt hi)
  have hgo : (stH xs l i).hp = (getL xs).hp - (i : Nat) := rfl
  have hle : (stR xs l i).le = (l.length : Int) - (i : Nat) := rfl
  obtain ⟨a1, a2⟩ := p.adv (by rw [hle]; omega) (by rw [hgo]; omega)
  refine ⟨a1, a2.trans ?_⟩
  have hsg : segR (stR xs l i).sg ((stR xs l i).le - 1) = if i + 1 < l.length then l.getD (i + 1) zero16 else (getL xs).d := by
    rw [hle, show (l.length : Int) - (i : Nat) - 1 = (l.length : Int) - ((i + 1 : Nat) : Nat) by omega]
    exact rev_at hi
  have e1 : toH (segR (stR xs l i).sg ((stR xs l i).le - 1)) (nearH (stH xs l i)) = stH xs l (i + 1) := by
    rw [hsg]
    unfold stH hopH toH nearH
    dsimp only
    congr 1
    all_goals omega
  have e2 : ({ stR xs l i with le := (stR xs l i).le - 1 } : Rb) = stR xs l (i + 1) := by
    unfold stR
    dsimp only
    congr 1
    all_goals omega
  unfold stL
  rw [e1, e2]
theorem st_rem {i : Nat} (hi : i ≤ l.length) : hdrE (stL xs l i) = 0 ∧ remL (stL xs l i) = stW xs i := by
  obtain ⟨h1, h2, h3, h4, h5⟩ := insE_zero h
  obtain ⟨g1, g2, g3, g4, g5⟩ := wholeE_zero h1
  have p := st_pk ha hv h hop hi
  refine ⟨p.says.1, p.rem.trans ?_⟩
  have e1 : ((xs.drop 40).length : Int) = (getL xs).ln := by rw [List.length_drop, g5]; omega
  have e2 : segR (stR xs l i).sg 0 = (getL xs).d := ins_last (xs := xs) (l := l) (tl := [])
  rw [e1, e2]
  rfl
theorem st_end : advE (stL xs l l.length) = 10 := by
  have p := st_pk ha hv h hop (Nat.le_refl _)
  exact p.adv_none (by show (l.length : Int) - (l.length : Nat) = 0; omega)
theorem st_get {i : Nat} (hi : i ≤ l.length) : getE (stL xs l i) = 0 ∧ getH (stL xs l i) = stH xs l i := by
  have p := st_pk ha hv h hop hi
  refine ⟨p.getE, ?_⟩
  unfold getH
  rw [if_pos (show getE (stL xs l i) = 0 from p.getE)]
  exact p.getL
theorem st_len {i : Nat} (hi : i ≤ l.length) : (stL xs l i).length ≤ 1500 := by
  have p := st_pk ha hv h hop hi
  have hx := insE_zero h
  have p0 := ins_pk ha hv h
  have g2 := (wholeE_zero hx.1).2.1
  have e := p.ln
  have e0 := p0.ln
  have e2 : (stH xs l i).ln = (goH xs l []).ln := rfl
  have := p.len
  unfold stL
  rw [p.len, List.length_drop]
  omega
omit hv hop in
theorem stW_zero : stW xs 0 = xs := by
  obtain ⟨h1, h2, h3, h4, h5⟩ := insE_zero h
  obtain ⟨g1, g2, g3, g4, g5⟩ := wholeE_zero h1
  unfold stW
  have e : hopH ((0 : Nat) : Nat) (getL xs) = getL xs := by unfold hopH; simp
  rw [e]
  exact headL_getL ha g2 g3
omit hv in
theorem stW_next {i : Nat} (hi : i < l.length) : outE (stW xs i) (neE (stW xs i)) = 0 ∧ outL (stW xs i) (neH (stW xs i)) (neE (stW xs i)) = stW xs (i + 1) := by
  obtain ⟨h1, h2, h3, h4, h5⟩ := insE_zero h
  have g2 := (wholeE_zero h1).2.1
  have hr := can_range (getL_can ha)
  have e0 : (hopH (i : Nat) (getL xs)).hp = (getL xs).hp - (i : Nat) := rfl
  obtain ⟨a1, a2⟩ := near_back (h := hopH (i : Nat) (getL xs)) (ys := xs.drop 40) (hopH_ok (getL_ok ha g2) (by unfold i64ok; omega)) (hopH_can (getL_can ha) (by omega) (by omega)) (by rw [e0]; omega)
  refine ⟨a1, a2.trans ?_⟩
  have e : nearH (hopH (i : Nat) (getL xs)) = hopH ((i + 1 : Nat) : Nat) (getL xs) := by
    unfold nearH hopH
    dsimp only
    congr 1
    all_goals omega
  rw [e]
  rfl
omit hv in
theorem stW_len {i : Nat} (hi : i ≤ l.length) : (stW xs i).length = xs.length := by
  obtain ⟨h1, h2, h3, h4, h5⟩ := insE_zero h
  have g2 := (wholeE_zero h1).2.1
  have hr := can_range (getL_can ha)
  unfold stW
  rw [len_back (hopH_ok (getL_ok ha g2) (by unfold i64ok; omega)), List.length_drop]
  omega
end
end Go.Proofs.YtjafjapnmffohaaGreatDoor

namespace Go.Proofs.YtjafjapnmffohaaGreatDoor
open Go.RowKit
set_option linter.unusedVariables false

def wholeH (xs : List Int) : Hd := if wholeE xs = 0 then getL xs else zeroH
section
variable (A : Option Addr) (n c : Nat) (xs : List Int) (w : World) (hn : n ≤ 140737488351232) (hb : Bs w w.heap.size A n xs)
include hn hb
end
section
variable (A : Option Addr) (n c : Nat) (xs : List Int) (w : World) (hn : n ≤ 140737488351232) (hc : n ≤ c) (hc2 : c ≤ 9223372036854775807) (hb : Bs w w.heap.size A n xs)
include hn hc hc2 hb
end
end Go.Proofs.YtjafjapnmffohaaGreatDoor

namespace Go.Proofs.YtjafjapnmffohaaGreatDoor
open Go.RowKit
set_option linter.unusedVariables false

theorem wholeH_hdr {xs : List Int} (h : hdrE xs = 0) : wholeH xs = getL xs := by unfold wholeH; rw [if_pos (hdrE_zero h).1]
theorem many_pos (ys : List Int) : 0 < manyR ys := by unfold manyR; omega
theorem says_len (ys : List Int) : (saysR ys).sg.length = manyR ys := chunksR_len _ _
theorem segR_at {l : List (List Int)} {k : Nat} (h : k < l.length) : segR l (k : Nat) = l.getD k zero16 := by
  have ht : thereR l (k : Nat) = true := by unfold thereR; rw [decide_eq_true_eq]; omega
  unfold segR
  rw [if_pos ht, Int.toNat_natCast]
section
variable (A : Option Addr) (n c : Nat) (xs : List Int) (w : World) (hn : n ≤ 140737488351232) (hc : n ≤ c) (hc2 : c ≤ 9223372036854775807) (hb : Bs w w.heap.size A n xs)
include hn hc hc2 hb
end
end Go.Proofs.YtjafjapnmffohaaGreatDoor

namespace Go.Proofs.YtjafjapnmffohaaGreatDoor
open Go.RowKit
set_option linter.unusedVariables false

section
variable (A : Option Addr) (n c : Nat) (xs : List Int) (w : World) (hn : n ≤ 140737488351232) (hc : n ≤ c) (hc2 : c ≤ 9223372036854775807) (hb : Bs w w.heap.size A n xs)
include hn hc hc2 hb
end
end Go.Proofs.YtjafjapnmffohaaGreatDoor

namespace Go.Proofs.YtjafjapnmffohaaGreatDoor
open Go.RowKit
set_option linter.unusedVariables false

/-- the segments behind j rounds: the last one, and j others, the last ones first -/
def segJ (l : List (List Int)) (d : List Int) (j : Nat) : List (List Int) := d :: (l.drop (l.length - j)).reverse
theorem segJ_zero (l : List (List Int)) (d : List Int) : segJ l d 0 = [d] := by unfold segJ; simp
theorem segJ_all (l : List (List Int)) (d : List Int) : segJ l d l.length = (l ++ [d]).reverse := by unfold segJ; simp
theorem segJ_next (l : List (List Int)) (d : List Int) {j : Nat} (hj : j < l.length) : segJ l d (j + 1) = segJ l d j ++ [l.getD (l.length - 1 - j) zero16] := by
  unfold segJ
  have e : l.drop (l.length - (j + 1)) = l.getD (l.length - 1 - j) zero16 :: l.drop (l.length - j) := by
    have h := List.drop_eq_getElem_cons (l := l) (i := l.length - (j + 1)) (by omega)
    rw [h, show l.length - (j + 1) + 1 = l.length - j by omega]
    congr 1
    simp [List.getD, show l.length - (j + 1) = l.length - 1 - j by omega, show l.length - 1 - j < l.length by omega]
  rw [e, List.reverse_cons]
  rfl
theorem OwnA.block {t : TypeId} {w : World} {base n c : Nat} {A : Option Addr} {l : List (List Int)} (h : OwnA t w base A n c l) : ∀ k, (Value.slice A n c).ownBlock = some k → ∃ cs z, w.heap[k]? = some (.cells cs t z) := fun k hk => by
  rcases h.1.2 with ⟨e, _⟩ | ⟨g, cap, cur, hv, hbg, hg, r⟩
  · rw [e] at hk; simp [Value.ownBlock] at hk
  · rw [hv] at hk
    simp [Value.ownBlock] at hk
    subst hk
    exact ⟨_, _, hg⟩
theorem OwnA.ne {t t2 : TypeId} {w : World} {base n c g : Nat} {A : Option Addr} {l : List (List Int)} {vs : List Value} (h : OwnA t w base A n c l) (hb : BlkV w t2 g vs) (ht : t ≠ t2) : (Value.slice A n c).ownBlock ≠ some g := fun e => by
  obtain ⟨cs, z, hc⟩ := h.block g e
  have h2 : w.heap[g]? = some (.cells vs.toArray t2 (0, 0)) := hb
  rw [h2] at hc
  injection hc with hc
  injection hc with _ h3 _
  exact ht h3.symm
theorem OwnA.elsewhere {t : TypeId} {w w' : World} {base n c : Nat} {A : Option Addr} {l : List (List Int)} (h : OwnA t w base A n c l) (hk : ∀ k, (Value.slice A n c).ownBlock = some k → w'.heap[k]? = w.heap[k]?) : OwnA t w' base A n c l := by
  refine ⟨⟨h.1.1, ?_⟩, h.2⟩
  rcases h.1.2 with e | ⟨g, cap, cur, hv, hbg, hg, r⟩
  · exact .inl e
  · exact .inr ⟨g, cap, cur, hv, hbg, by rw [hk g (by rw [hv]; rfl)]; exact hg, r⟩
theorem OwnA.ofBlk {t : TypeId} {w : World} {g : Nat} {s : List Int} (h : Blk w t g s) (hs : s.length = 16) (ha : AllB s) {base : Nat} (hb : base ≤ g) : OwnA t w base (some ⟨g, 0, none⟩) 1 1 [s] :=
  ⟨⟨by simp [cellsB_length, hs], .inr ⟨g, 1, (cellsB s).toArray, rfl, hb, h, Nat.le_refl _, by simp [maxLen], by simp [cellsB_length, hs], by simp [List.take_of_length_le, cellsB_length, hs]⟩⟩, .cons hs ha .nil, rfl⟩
section
variable (A : Option Addr) (n c : Nat) (xs : List Int) (vA : Option Addr) (m vc : Nat) (l : List (List Int)) (tA : Option Addr) (tn tc : Nat) (os : List Od) (w : World)
    (hn : n ≤ 140737488351232) (hc : n ≤ c) (hc2 : c ≤ 9223372036854775807) (hb : Bs w w.heap.size A n xs) (hm : m ≤ 140737488351232) (hv : As w w.heap.size vA m l) (ht : tn ≤ 140737488351232) (hp : Os w w.heap.size tA tn os)
include hn hc hc2 hb hm hv ht hp
end
end Go.Proofs.YtjafjapnmffohaaGreatDoor
