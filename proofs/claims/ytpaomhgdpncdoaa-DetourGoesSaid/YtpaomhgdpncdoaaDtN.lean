/- A packet on its way by others, step by step, as functions of lists. No program here. -/
import Derived.Test.YtpaomhgdpncdoaaDtM
import Derived.Test.YtpaomhgdpncdoaaJSy
namespace Go.Proofs.Ytpaomhgdpncdoaa
open Go.RowKit
set_option linter.unusedVariables false

def hopH (i : Int) (h : Hd) : Hd := { h with hp := h.hp - i }
/-- the packet behind i steps: its fixed header, its routing header, its bytes; what it is without -/
def stH (xs : List Int) (l : List (List Int)) (i : Nat) : Hd := toH (if i < l.length then l.getD i zero16 else (getL xs).d) (hopH (i : Nat) (goH xs l []))
def stR (xs : List Int) (l : List (List Int)) (i : Nat) : Rb := { viaR xs l [] with le := (l.length : Int) - (i : Nat) }
def stL (xs : List Int) (l : List (List Int)) (i : Nat) : List Int := pkL (stH xs l i) (stR xs l i) (xs.drop 40)
def stW (xs : List Int) (i : Nat) : List Int := headL (hopH (i : Nat) (getL xs)) ++ xs.drop 40
theorem hopH_can {h : Hd} {i : Int} (hc : canB h = true) (h0 : 0 ≤ i) (h1 : i ≤ h.hp) : canB (hopH i h) = true := by
  have := can_range hc
  unfold canB hopH
  rw [decide_eq_true_eq]
  dsimp only
  omega
theorem hopH_ok {h : Hd} {i : Int} (hk : h.ok) (hi : i64ok (h.hp - i)) : (hopH i h).ok := ⟨hk.cl, hk.lb, hk.ln, hk.nx, hi, hk.s, hk.d, hk.vs, hk.vd⟩
theorem rev_at {l : List (List Int)} {d : List Int} {i : Nat} (hi : i ≤ l.length) : segR (l ++ [d]).reverse ((l.length : Int) - (i : Nat)) = if i < l.length then l.getD i zero16 else d := by
  have hl : (l ++ [d]).reverse.length = l.length + 1 := by simp
  have ht : thereR (l ++ [d]).reverse ((l.length : Int) - (i : Nat)) = true := by unfold thereR; rw [decide_eq_true_eq, hl]; omega
  unfold segR
  rw [if_pos ht, show ((l.length : Int) - (i : Nat)).toNat = l.length - i by omega]
  rw [List.getD_eq_getElem?_getD, List.getElem?_reverse (by simp; omega), List.length_append, List.length_singleton, show l.length + 1 - 1 - (l.length - i) = i by omega]
  by_cases h : i < l.length
  · rw [if_pos h, List.getElem?_append_left h, List.getD_eq_getElem?_getD]
  · rw [if_neg h, show i = l.length by omega, List.getElem?_append_right (Nat.le_refl _), Nat.sub_self]; rfl
theorem near_back {h : Hd} {ys : List Int} (hk : h.ok) (hc : canB h = true) (h1 : 1 < h.hp) : outE (headL h ++ ys) (neE (headL h ++ ys)) = 0 ∧ outL (headL h ++ ys) (neH (headL h ++ ys)) (neE (headL h ++ ys)) = headL (nearH h) ++ ys := by
  have e1 : neE (headL h ++ ys) = 0 := by unfold neE; rw [getL_back hk hc, if_neg (by omega)]
  have e2 : outE (headL h ++ ys) 0 = 0 := by unfold outE; rw [if_pos (getE_back hk hc)]
  rw [e1]
  refine ⟨e2, ?_⟩
  unfold outL neH
  rw [if_pos e2, getL_back hk hc, if_neg (by omega), putL_yes (nearH_can hc h1), drop_back hk]
section
variable {xs : List Int} {l : List (List Int)} (ha : AllB xs) (hv : AllA l) (h : insE xs l [] = 0) (hop : (l.length : Int) < (getL xs).hp)
include ha hv h hop
theorem st_pk {i : Nat} (hi : i ≤ l.length) : Pk (stH xs l i) (stR xs l i) (xs.drop 40) := by
  have p := ins_pk ha hv h
  obtain ⟨h1, h2, h3, h4, h5⟩ := insE_zero h
  have g2 := (wholeE_zero h1).2.1
  have hO := getL_ok ha g2
  have hr := can_range (getL_can ha)
  have hsg : (viaR xs l []).sg.length = l.length + 1 := by show (l ++ [(getL xs).d]).reverse.length = _; simp
  obtain ⟨f1, f2⟩ := putR_left p (v := (l.length : Int) - (i : Nat)) (by omega) (by rw [hsg]; omega)
  have hgo : (goH xs l []).hp = (getL xs).hp := rfl
  have hd16 : (if i < l.length then l.getD i zero16 else (getL xs).d).length = 16 := by split; exact (hv.getD i).1; exact hO.d
  have hda : AllB (if i < l.length then l.getD i zero16 else (getL xs).d) := by split; exact (hv.getD i).2; exact hO.vd
  refine ⟨toH_ok (hopH_ok p.ok (by rw [hgo]; unfold i64ok; omega)) hd16 hda, toH_can (hopH_can p.can (by omega) (by rw [hgo]; omega)), p.nx, ?_, p.sg, f1⟩
  have e : (putR (stR xs l i)).length = (putR (viaR xs l [])).length := by
    show (putR { viaR xs l [] with le := (l.length : Int) - (i : Nat) }).length = _
    rw [← f2, List.length_set]
  rw [e]
  exact p.ln
omit ha hv hop in
theorem st_zero : insL xs l [] = stL xs l 0 := by
  obtain ⟨h1, h2, h3, h4, h5⟩ := insE_zero h
  have e1 : stH xs l 0 = goH xs l [] := by
    unfold stH
    rw [if_pos h3.1]
    unfold hopH toH goH viaH sizedH toH
    dsimp only
    congr 1
    all_goals omega
  have e2 : stR xs l 0 = viaR xs l [] := by
    unfold stR viaR
    dsimp only
    congr 1
    all_goals omega
  rw [ins_is h]
  unfold stL
  rw [e1, e2]
theorem st_next {i : Nat} (hi : i < l.length) : advE (stL xs l i) = 0 ∧ advL (stL xs l i) = stL xs l (i + 1) := by
  have p := st_pk ha hv h hop (Nat.le_of_lt hi)
  have hgo : (stH xs l i).hp = (getL xs).hp - (i : Nat) := rfl
  have hle : (stR xs l i).le = (l.length : Int) - (i : Nat) := rfl
  obtain ⟨a1, a2⟩ := p.adv (by rw [hle]; omega) (by rw [hgo]; omega)
  refine ⟨a1, a2.trans ?_⟩
  have hsg : segR (stR xs l i).sg ((stR xs l i).le - 1) = if i + 1 < l.length then l.getD (i + 1) zero16 else (getL xs).d := by
    rw [hle, show (l.length : Int) - (i : Nat) - 1 = (l.length : Int) - ((i + 1 : Nat) : Nat) by omega]
    exact rev_at hi
  have e1 : toH (segR (stR xs l i).sg ((stR xs l i).le - 1)) (nearH (stH xs l i)) = stH xs l (i + 1) := by
    rw [hsg]
    unfold stH hopH toH nearH
    dsimp only
    congr 1
    all_goals omega
  have e2 : ({ stR xs l i with le := (stR xs l i).le - 1 } : Rb) = stR xs l (i + 1) := by
    unfold stR
    dsimp only
    congr 1
    all_goals omega
  unfold stL
  rw [e1, e2]
theorem st_rem {i : Nat} (hi : i ≤ l.length) : hdrE (stL xs l i) = 0 ∧ remL (stL xs l i) = stW xs i := by
  obtain ⟨h1, h2, h3, h4, h5⟩ := insE_zero h
  obtain ⟨g1, g2, g3, g4, g5⟩ := wholeE_zero h1
  have p := st_pk ha hv h hop hi
  refine ⟨p.says.1, p.rem.trans ?_⟩
  have e1 : ((xs.drop 40).length : Int) = (getL xs).ln := by rw [List.length_drop, g5]; omega
  have e2 : segR (stR xs l i).sg 0 = (getL xs).d := ins_last (xs := xs) (l := l) (tl := [])
  rw [e1, e2]
  rfl
theorem st_end : advE (stL xs l l.length) = 10 := by
  have p := st_pk ha hv h hop (Nat.le_refl _)
  exact p.adv_none (by show (l.length : Int) - (l.length : Nat) = 0; omega)
theorem st_get {i : Nat} (hi : i ≤ l.length) : getE (stL xs l i) = 0 ∧ getH (stL xs l i) = stH xs l i := by
  have p := st_pk ha hv h hop hi
  refine ⟨p.getE, ?_⟩
  unfold getH
  rw [if_pos (show getE (stL xs l i) = 0 from p.getE)]
  exact p.getL
theorem st_len {i : Nat} (hi : i ≤ l.length) : (stL xs l i).length ≤ 1500 := by
  have p := st_pk ha hv h hop hi
  have hx := insE_zero h
  have p0 := ins_pk ha hv h
  have g2 := (wholeE_zero hx.1).2.1
  have e := p.ln
  have e0 := p0.ln
  have e2 : (stH xs l i).ln = (goH xs l []).ln := rfl
  have := p.len
  unfold stL
  rw [p.len, List.length_drop]
  omega
omit hv hop in
theorem stW_zero : stW xs 0 = xs := by
  obtain ⟨h1, h2, h3, h4, h5⟩ := insE_zero h
  obtain ⟨g1, g2, g3, g4, g5⟩ := wholeE_zero h1
  unfold stW
  have e : hopH ((0 : Nat) : Nat) (getL xs) = getL xs := by unfold hopH; simp
  rw [e]
  exact headL_getL ha g2 g3
omit hv in
theorem stW_next {i : Nat} (hi : i < l.length) : outE (stW xs i) (neE (stW xs i)) = 0 ∧ outL (stW xs i) (neH (stW xs i)) (neE (stW xs i)) = stW xs (i + 1) := by
  obtain ⟨h1, h2, h3, h4, h5⟩ := insE_zero h
  have g2 := (wholeE_zero h1).2.1
  have hr := can_range (getL_can ha)
  have e0 : (hopH (i : Nat) (getL xs)).hp = (getL xs).hp - (i : Nat) := rfl
  obtain ⟨a1, a2⟩ := near_back (h := hopH (i : Nat) (getL xs)) (ys := xs.drop 40) (hopH_ok (getL_ok ha g2) (by unfold i64ok; omega)) (hopH_can (getL_can ha) (by omega) (by omega)) (by rw [e0]; omega)
  refine ⟨a1, a2.trans ?_⟩
  have e : nearH (hopH (i : Nat) (getL xs)) = hopH ((i + 1 : Nat) : Nat) (getL xs) := by
    unfold nearH hopH
    dsimp only
    congr 1
    all_goals omega
  rw [e]
  rfl
omit hv in
theorem stW_len {i : Nat} (hi : i ≤ l.length) : (stW xs i).length = xs.length := by
  obtain ⟨h1, h2, h3, h4, h5⟩ := insE_zero h
  have g2 := (wholeE_zero h1).2.1
  have hr := can_range (getL_can ha)
  unfold stW
  rw [len_back (hopH_ok (getL_ok ha g2) (by unfold i64ok; omega)), List.length_drop]
  omega
end
end Go.Proofs.Ytpaomhgdpncdoaa
