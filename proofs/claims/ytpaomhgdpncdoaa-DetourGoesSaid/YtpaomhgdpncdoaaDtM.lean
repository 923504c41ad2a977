/- The page's words on packets with a routing header: what such a packet is without it, and one segment on. No program here. -/
import Derived.Test.YtpaomhgdpncdoaaDtK
namespace Go.Proofs.Ytpaomhgdpncdoaa
open Go.RowKit
set_option linter.unusedVariables false

theorem take8 : ∀ {xs : List Int}, 8 ≤ xs.length → xs.take 8 = [xs.getD 0 0, xs.getD 1 0, xs.getD 2 0, xs.getD 3 0, xs.getD 4 0, xs.getD 5 0, xs.getD 6 0, xs.getD 7 0]
  | [], h => by simp at h
  | [_], h => by simp at h
  | [_, _], h => by simp at h
  | [_, _, _], h => by simp at h
  | [_, _, _, _], h => by simp at h
  | [_, _, _, _, _], h => by simp at h
  | [_, _, _, _, _, _], h => by simp at h
  | [_, _, _, _, _, _, _], h => by simp at h
  | a :: b :: c :: d :: e :: f :: g :: k :: t, h => by simp
theorem headL_getL {xs : List Int} (ha : AllB xs) (hl : 40 ≤ xs.length) (h6 : xs.getD 0 0 / 16 = 6) : headL (getL xs) ++ xs.drop 40 = xs := by
  have e1 : xs = xs.take 8 ++ ((xs.drop 8).take 16 ++ ((xs.drop 24).take 16 ++ xs.drop 40)) := by
    have a1 : (xs.drop 24).take 16 ++ xs.drop 40 = xs.drop 24 := by
      have := List.take_append_drop 16 (xs.drop 24)
      rwa [List.drop_drop] at this
    have a2 : (xs.drop 8).take 16 ++ xs.drop 24 = xs.drop 8 := by
      have := List.take_append_drop 16 (xs.drop 8)
      rwa [List.drop_drop] at this
    rw [a1, a2, List.take_append_drop]
  have r0 := ha.getD 0
  have r1 := ha.getD 1
  have r2 := ha.getD 2
  have r3 := ha.getD 3
  have r4 := ha.getD 4
  have r5 := ha.getD 5
  have e2 : headL (getL xs) = xs.take 8 ++ ((xs.drop 8).take 16 ++ (xs.drop 24).take 16) := by
    rw [take8 (by omega), headL_split _ (getL_can ha)]
    unfold getL two
    simp only [List.cons_append, List.nil_append]
    generalize xs.getD 0 0 = x0 at *
    generalize xs.getD 1 0 = x1 at *
    generalize xs.getD 2 0 = x2 at *
    generalize xs.getD 3 0 = x3 at *
    generalize xs.getD 4 0 = x4 at *
    generalize xs.getD 5 0 = x5 at *
    congr 1
    · omega
    · congr 1
      · omega
      · congr 1
        · omega
        · congr 1
          · omega
          · congr 1
            · omega
            · congr 1
              omega
  rw [e2]
  conv => rhs; rw [e1]
  simp only [List.append_assoc]

/-- a packet of a fixed header, a routing header and bytes -/
structure Pk (h : Hd) (r : Rb) (zs : List Int) : Prop where
  ok : h.ok
  can : canB h = true
  nx : h.nx = 43
  ln : h.ln = ((putR r).length : Int) + (zs.length : Int)
  sg : AllA r.sg
  cr : canR r = 0
def pkL (h : Hd) (r : Rb) (zs : List Int) : List Int := headL h ++ (putR r ++ zs)
section
variable {h : Hd} {r : Rb} {zs : List Int} (p : Pk h r zs)
include p
theorem Pk.len : (pkL h r zs).length = 40 + (putR r).length + zs.length := by unfold pkL; rw [len_back p.ok, List.length_append]; omega
theorem Pk.getL : getL (pkL h r zs) = h := getL_back p.ok p.can
theorem Pk.getE : getE (pkL h r zs) = 0 := getE_back p.ok p.can
theorem Pk.drop : (pkL h r zs).drop 40 = putR r ++ zs := drop_back p.ok
theorem Pk.whole : wholeE (pkL h r zs) = 0 := by
  unfold wholeE
  rw [if_pos p.getE, p.getL, p.len, if_pos (by rw [p.ln]; omega)]
theorem Pk.says : hdrE (pkL h r zs) = 0 ∧ saysR ((pkL h r zs).drop 40) = r ∧ wideR ((pkL h r zs).drop 40) = (putR r).length := by
  obtain ⟨e1, e2, e3⟩ := parse_putR p.sg p.cr zs
  rw [p.drop]
  unfold parseR at e2
  unfold lenR at e3
  rw [if_pos e1] at e2 e3
  refine ⟨?_, e2, by rw [e3, putR_len p.sg p.cr]⟩
  unfold hdrE
  rw [if_pos p.whole, p.getL, if_pos p.nx, p.drop]
  exact e1
theorem Pk.rem : remL (pkL h r zs) = headL (sizedH (zs.length : Int) (toH (segR r.sg 0) (setNx r.nx h))) ++ zs := by
  obtain ⟨e1, e2, e3⟩ := p.says
  unfold remL offH
  rw [if_pos e1, e2, e3, p.getL, p.len, show 40 + (putR r).length + zs.length - (40 + (putR r).length) = zs.length by omega, ← List.drop_drop, p.drop, List.drop_left]
theorem Pk.adv_none (h0 : r.le = 0) : advE (pkL h r zs) = 10 := by
  obtain ⟨e1, e2, e3⟩ := p.says
  unfold advE
  rw [if_pos e1, e2, if_pos h0]
theorem putR_left {v : Int} (h0 : 0 ≤ v) (h1 : v < r.sg.length) : canR { r with le := v } = 0 ∧ (putR r).set 3 v = putR { r with le := v } := by
  obtain ⟨c1, c2, c3, c4⟩ := canR_zero p.cr
  obtain ⟨b1, b2, b3, b4⟩ := fitR_spec c1
  have hc : canR { r with le := v } = 0 := by
    unfold canR fitR
    dsimp only
    rw [if_pos (by rw [decide_eq_true_eq]; omega), if_neg (by omega), if_neg (by omega)]
    exact c4
  refine ⟨hc, ?_⟩
  rw [putR_yes p.cr, putR_yes hc]
  rfl
theorem Pk.adv (h0 : 0 < r.le) (h1 : 1 < h.hp) : advE (pkL h r zs) = 0 ∧ advL (pkL h r zs) = pkL (toH (segR r.sg (r.le - 1)) (nearH h)) { r with le := r.le - 1 } zs := by
  obtain ⟨e1, e2, e3⟩ := p.says
  obtain ⟨c1, c2, c3, c4⟩ := canR_zero p.cr
  have e4 : advE (pkL h r zs) = 0 := by
    unfold advE
    rw [if_pos e1, e2, if_neg (by omega), p.getL, if_neg (by omega)]
  refine ⟨e4, ?_⟩
  obtain ⟨f1, f2⟩ := putR_left p (v := r.le - 1) (by omega) (by omega)
  unfold advL advH
  rw [if_pos e4, e2, p.getL, p.drop]
  have hl := headL_length (toH_ok (nearH_ok p.ok h1) (segR_len p.sg (r.le - 1)) (segR_all p.sg (r.le - 1)))
  have hp := putR_len p.sg p.cr
  have hb := sizeR_bounds p.cr
  unfold pkL
  rw [List.set_append_right _ _ (by rw [hl]; omega), hl, List.set_append_left _ _ (by rw [hp]; omega), f2]
theorem Pk.next (h0 : 0 < r.le) (h1 : 1 < h.hp) : Pk (toH (segR r.sg (r.le - 1)) (nearH h)) { r with le := r.le - 1 } zs := by
  obtain ⟨c1, c2, c3, c4⟩ := canR_zero p.cr
  obtain ⟨f1, f2⟩ := putR_left p (v := r.le - 1) (by omega) (by omega)
  refine ⟨toH_ok (nearH_ok p.ok h1) (segR_len p.sg (r.le - 1)) (segR_all p.sg (r.le - 1)), toH_can (nearH_can p.can h1), p.nx, ?_, p.sg, f1⟩
  rw [← f2, List.length_set]
  exact p.ln
end

theorem insE_zero {xs : List Int} {l : List (List Int)} {tl : List Ob} (h : insE xs l tl = 0) : wholeE xs = 0 ∧ ¬ ((getL xs).nx = 43 ∨ (getL xs).nx = 0) ∧ (0 < l.length ∧ l.length ≤ 9) ∧ canR (viaR xs l tl) = 0 ∧ xs.length + (putR (viaR xs l tl)).length ≤ 1500 := by
  by_cases h1 : wholeE xs = 0
  · by_cases h2 : (getL xs).nx = 43 ∨ (getL xs).nx = 0
    · rw [insE_kind h1 h2] at h; omega
    · by_cases h3 : l.length = 0 ∨ 9 < l.length
      · rw [insE_many h1 h2 h3] at h; omega
      · by_cases h4 : canR (viaR xs l tl) = 0
        · by_cases h5 : 1500 < xs.length + (putR (viaR xs l tl)).length
          · rw [insE_long h1 h2 h3 h4 h5] at h; omega
          · exact ⟨h1, h2, by omega, h4, by omega⟩
        · rw [insE_can h1 h2 h3 h4] at h; exact absurd h h4
  · rw [insE_whole h1] at h; exact absurd h h1
theorem AllA.reverse {l : List (List Int)} (h : AllA l) : AllA l.reverse := fun s hs => h s (List.mem_reverse.1 hs)
/-- the packet by way of others is such a packet -/
def goH (xs : List Int) (l : List (List Int)) (tl : List Ob) : Hd := sizedH (((putR (viaR xs l tl)).length + (xs.length - 40) : Nat) : Int) (viaH xs l)
section
variable {xs : List Int} {l : List (List Int)} {tl : List Ob} (ha : AllB xs) (hv : AllA l) (h : insE xs l tl = 0)
include ha hv h
theorem ins_pk : Pk (goH xs l tl) (viaR xs l tl) (xs.drop 40) := by
  obtain ⟨h1, h2, h3, h4, h5⟩ := insE_zero h
  obtain ⟨g1, g2, g3, g4, g5⟩ := wholeE_zero h1
  obtain ⟨o1, o2⟩ := viaH_ok ha g2 hv
  refine ⟨sizedH_ok o1 (by unfold i64ok; omega), sizedH_can o2 (by omega) (by omega), rfl, ?_, ?_, h4⟩
  · show (((putR (viaR xs l tl)).length + (xs.length - 40) : Nat) : Int) = _
    rw [List.length_drop]; omega
  · exact (hv.append (.cons (getL_ok ha g2).d (getL_ok ha g2).vd .nil)).reverse
omit ha hv in
theorem ins_is : insL xs l tl = pkL (goH xs l tl) (viaR xs l tl) (xs.drop 40) := by
  unfold insL pkL goH
  rw [if_pos h]
theorem ins_len : (insL xs l tl).length ≤ 1500 := by
  obtain ⟨h1, h2, h3, h4, h5⟩ := insE_zero h
  have := (wholeE_zero h1).2.1
  rw [ins_is h, (ins_pk ha hv h).len, List.length_drop]
  omega
omit ha hv h in
theorem ins_last : segR (viaR xs l tl).sg 0 = (getL xs).d := by
  show segR (l ++ [(getL xs).d]).reverse 0 = _
  rw [List.reverse_append]
  have e : thereR ([(getL xs).d].reverse ++ l.reverse) 0 = true := by unfold thereR; rw [decide_eq_true_eq]; simp only [List.reverse_singleton, List.cons_append, List.length_cons]; omega
  unfold segR
  rw [if_pos e]
  rfl
theorem ins_back : hdrE (insL xs l tl) = 0 ∧ remL (insL xs l tl) = xs := by
  obtain ⟨h1, h2, h3, h4, h5⟩ := insE_zero h
  obtain ⟨g1, g2, g3, g4, g5⟩ := wholeE_zero h1
  have p := ins_pk ha hv h
  rw [ins_is h]
  refine ⟨p.says.1, ?_⟩
  rw [p.rem, ins_last]
  have e : sizedH ((xs.drop 40).length : Int) (toH (getL xs).d (setNx (viaR xs l tl).nx (goH xs l tl))) = getL xs := by
    have e1 : ((xs.drop 40).length : Int) = (getL xs).ln := by rw [List.length_drop, g5]; omega
    rw [e1]
    rfl
  rw [e]
  exact headL_getL ha g2 g3
end
end Go.Proofs.Ytpaomhgdpncdoaa
