/- The page's words on packets sent by way of others: they are read as what they were, or have too many headers. No program here. -/
import Derived.Test.YtdpbhhoabnmbpaaGreatPkB
set_option maxRecDepth 100000
namespace Go.Proofs.YtdpbhhoabnmbpaaGreat
open Go.RowKit
set_option linter.unusedVariables false

/-- a header that stands so much farther behind -/
def shiftP (D : Int) (p : Pt) : Pt := ⟨p.k, p.a + D, p.l⟩
theorem getD_app {pre zs : List Int} {P : Nat} (hp : pre.length = P) (i : Nat) : (pre ++ zs).getD (P + i) 0 = zs.getD i 0 := by
  simp only [List.getD]
  rw [List.getElem?_append_right (by omega), show P + i - pre.length = i by omega]
theorem walkR_shift {pre pre' zs : List Int} {P P' : Nat} (hp : pre.length = P) (hp' : pre'.length = P') : ∀ (f : Nat) (nx : Int) (a : Nat) (ps : List Pt), f ≤ 7 → (nx ≠ 0 ∨ f < 7) →
    walkR (pre ++ zs) (f + 1) nx (P + a) = (ps, 0) → walkR (pre' ++ zs) f nx (P' + a) = (ps.map (shiftP ((P' : Int) - P)), 0) ∨ walkR (pre' ++ zs) f nx (P' + a) = ([], 8) := by
  have hl : (pre ++ zs).length = P + zs.length := by rw [List.length_append, hp]
  have hl' : (pre' ++ zs).length = P' + zs.length := by rw [List.length_append, hp']
  have hz : ∀ a, hsz (pre ++ zs) (P + a) = hsz zs a := fun a => by unfold hsz; rw [Nat.add_assoc, getD_app hp]
  have hz' : ∀ a, hsz (pre' ++ zs) (P' + a) = hsz zs a := fun a => by unfold hsz; rw [Nat.add_assoc, getD_app hp']
  intro f
  induction f with
  | zero =>
    intro nx a ps hf hn h
    by_cases h44 : nx = 44
    · rw [h44, walkR_frag] at h; simp at h
    by_cases h0 : nx = 0
    · rw [h0, walkR_form _ 1 _ (by omega)] at h; simp at h
    by_cases hx : nx = 43 ∨ nx = 60
    · exact .inr (walkR_many _ nx _ hx)
    · rw [walkR_last _ 1 nx _ h44 h0 (by omega) (by omega)] at h
      rw [walkR_last _ 0 nx _ h44 h0 (by omega) (by omega)]
      injection h with h1 _
      subst h1
      refine .inl ?_
      simp only [List.map_cons, List.map_nil, shiftP, hl, hl']
      congr 3
      · omega
      · omega
  | succ f ih =>
    intro nx a ps hf hn h
    by_cases h44 : nx = 44
    · rw [h44, walkR_frag] at h; simp at h
    by_cases h0 : nx = 0
    · rw [h0, walkR_form _ (f + 1 + 1) _ (by omega)] at h; simp at h
    by_cases hx : nx = 43 ∨ nx = 60
    · by_cases hs : P + a + 2 ≤ (pre ++ zs).length ∧ P + a + hsz (pre ++ zs) (P + a) ≤ (pre ++ zs).length
      · rw [walkR_more _ (f + 1) nx _ (.inr hx) hs] at h
        have hs' : P' + a + 2 ≤ (pre' ++ zs).length ∧ P' + a + hsz (pre' ++ zs) (P' + a) ≤ (pre' ++ zs).length := by
          rw [hz, hl] at hs
          rw [hz', hl']
          omega
        rw [walkR_more _ f nx _ (.inr hx) hs']
        rw [hz, Nat.add_assoc, getD_app hp] at h
        rw [hz', Nat.add_assoc, getD_app hp']
        obtain ⟨r, hr⟩ : ∃ r, r = walkR (pre ++ zs) (f + 1) (zs.getD a 0) (P + (a + hsz zs a)) := ⟨_, rfl⟩
        rw [← hr] at h
        obtain ⟨l, e⟩ := r
        unfold joinPs at h
        by_cases he : e = 0
        · subst he
          simp only [if_true, Prod.mk.injEq, and_true, List.cons_append, List.nil_append] at h
          rcases ih (zs.getD a 0) (a + hsz zs a) l (by omega) (.inr (by omega)) hr.symm with h1 | h1
          · refine .inl ?_
            rw [h1]
            unfold joinPs
            rw [if_pos rfl, ← h]
            simp only [List.map_cons, shiftP, List.cons_append, List.nil_append]
            congr 3
            omega
          · refine .inr ?_
            rw [h1]
            rfl
        · simp only [if_neg he, Prod.mk.injEq] at h
          exact absurd h.2 he
      · rw [walkR_short _ (f + 1) nx _ (.inr hx) hs] at h
        simp at h
    · rw [walkR_last _ (f + 1 + 1) nx _ h44 h0 (by omega) (by omega)] at h
      rw [walkR_last _ (f + 1) nx _ h44 h0 (by omega) (by omega)]
      injection h with h1 _
      subst h1
      refine .inl ?_
      simp only [List.map_cons, List.map_nil, shiftP, hl, hl']
      congr 3
      · omega
      · omega

theorem latB_shift (D : Int) (ps : List Pt) : (ps.map (shiftP D)).any (fun q => q.k == 43) = ps.any fun q => q.k == 43 := by
  rw [List.any_map]
  rfl
theorem any_of_lat {ps : List Pt} (h1 : latB ps = false) (h2 : rtIs ps = false) : ps.any (fun q => q.k == 43) = false := by
  cases ps with
  | nil => rfl
  | cons p r =>
    unfold latB at h1
    unfold rtIs at h2
    rw [List.any_cons]
    have hk : ¬ p.k = 43 := of_decide_eq_false h2
    rw [show (p.k == 43) = false by simpa using hk]
    simpa using h1
theorem lastP_map (D : Int) {ps : List Pt} (h : ps ≠ []) : lastP (ps.map (shiftP D)) = shiftP D (lastP ps) := by
  have hl : 0 < ps.length := List.length_pos_iff.2 h
  unfold lastP
  simp only [List.getD, List.length_map, List.getElem?_map]
  rw [List.getElem?_eq_getElem (by omega)]
  rfl

section
variable {xs : List Int} {l : List (List Int)} (ha : AllB xs) (hv : AllA l) (h : insE xs l [] = 0) (hk : pkE xs = 0) (hr : rtIs (pkW xs).1 = false)
include ha hv h hk hr
/-- a packet by way of others is read as what it was, or it has too many headers -/
theorem via_back : (pkE (insL xs l []) = 8 ∧ (getL xs).nx ≠ 6 ∧ (getL xs).nx ≠ 58) ∨
    (pkE (insL xs l []) = 0 ∧ pkB (insL xs l []) = ⟨goH xs l [], true, viaR xs l [], pkFin xs, (pkUp xs).k, upT (pkUp xs).k (pkBody xs), upM (getL xs).s (pkFin xs) (pkUp xs).k (pkBody xs), pkBody xs⟩) := by
  obtain ⟨hp0, hu⟩ := pkE_zero hk
  obtain ⟨p1, p2, p3, p4, p5, p6, p7⟩ := preE_zero hp0
  obtain ⟨w1, w2, m, w3, w4, w5⟩ := pkW_zero p3 p6
  obtain ⟨i1, i2, i3, i4, i5⟩ := insE_zero h
  have hpk := ins_pk ha hv h
  have his := ins_is h
  have hil := ins_len ha hv h
  have hlast := ins_last (xs := xs) (l := l) (tl := [])
  have eL := hpk.getL
  have eE := hpk.getE
  have ed := hpk.drop
  have elen := hpk.len
  have esay := hpk.says
  rw [← his] at eL eE ed elen esay
  have hnx : (goH xs l []).nx = 43 := rfl
  have hsize := sizeR_bounds i4
  rw [← putR_len hpk.sg i4] at hsize
  have hR0 : (insL xs l []).getD 40 0 = (getL xs).nx := by
    have := congrArg Rb.nx esay.2.1
    rw [show (viaR xs l []).nx = (getL xs).nx from rfl] at this
    rw [← this]
    show _ = ((insL xs l []).drop 40).getD 0 0
    simp [List.getD]
  have hH : hsz (insL xs l []) 40 = (putR (viaR xs l [])).length := by
    rw [← esay.2.2]
    unfold hsz wideR
    simp [List.getD]
  have hW : pkW (insL xs l []) = joinPs [⟨43, 40, ((putR (viaR xs l [])).length : Nat)⟩] (walkR (insL xs l []) 7 (getL xs).nx (40 + (putR (viaR xs l [])).length)) := by
    unfold pkW walkL
    rw [eL, hnx, if_neg (by rw [elen]; omega)]
    show walkR (insL xs l []) (7 + 1) 43 40 = _
    rw [walkR_more _ 7 43 40 (.inr (.inl rfl)) ⟨by rw [elen]; omega, by rw [hH, elen]; omega⟩, hH, hR0]
    rfl
  have hln : (goH xs l []).ln = ((insL xs l []).length : Int) - 40 := by rw [hpk.ln, elen]; omega
  have eX : xs = xs.take 40 ++ xs.drop 40 := (List.take_append_drop 40 xs).symm
  have eY : insL xs l [] = (headL (goH xs l []) ++ putR (viaR xs l [])) ++ xs.drop 40 := by rw [his]; unfold pkL; rw [List.append_assoc]
  have hpre : (xs.take 40).length = 40 := by rw [List.length_take]; omega
  have hpre' : (headL (goH xs l []) ++ putR (viaR xs l [])).length = 40 + (putR (viaR xs l [])).length := by rw [len_back hpk.ok]
  have hshift := walkR_shift (zs := xs.drop 40) hpre hpre' 7 (getL xs).nx 0 (pkW xs).1 (by omega) (.inl (by omega)) (by rw [← eX]; exact w1)
  rw [← eY, Nat.add_zero] at hshift
  rcases hshift with hs | hs
  · refine .inr ?_
    rw [hs] at hW
    obtain ⟨ps, hps⟩ : ∃ ps, ps = (pkW xs).1 := ⟨_, rfl⟩
    rw [← hps] at hs hW w2 hr p7 w1
    have hU : pkUp xs = lastP ps := by unfold pkUp; rw [hps]
    have hW2 : pkW (insL xs l []) = (⟨43, 40, ((putR (viaR xs l [])).length : Nat)⟩ :: ps.map (shiftP (((40 + (putR (viaR xs l [])).length : Nat) : Int) - (40 : Nat))), 0) := by
      rw [hW]
      unfold joinPs
      rw [if_pos rfl]
      rfl
    have hlat : latB ps = false := by
      unfold rtErr at p7
      cases hq : latB ps
      · rfl
      · rw [hq, if_pos rfl] at p7; omega
    have hany := any_of_lat hlat hr
    have hfin : pkFin xs = (getL xs).d := by unfold pkFin rtFin; rw [← hps, hr]; rfl
    have hI : rtIs (pkW (insL xs l [])).1 = true := by rw [hW2]; rfl
    have hL : latB (pkW (insL xs l [])).1 = false := by
      rw [hW2]
      unfold latB
      show (ps.map _).any _ = false
      rw [latB_shift, hany]
    have hact : segR (viaR xs l []).sg (viaR xs l []).le = (goH xs l []).d := by
      have e := rev_at (l := l) (d := (getL xs).d) (i := 0) (Nat.zero_le _)
      rw [if_pos i3.1] at e
      show segR (l ++ [(getL xs).d]).reverse ((l.length : Nat) : Int) = l.getD 0 zero16
      rw [← e]
      congr 1
    have hE0 : errR ((insL xs l []).drop 40) = 0 := (hdrE_zero esay.1).2.2
    have hpre0 : preE (insL xs l []) = 0 := by
      unfold preE
      rw [if_neg (by omega), if_pos eE, eL, if_pos hln, hW2]
      dsimp only
      rw [if_pos rfl]
      rw [hW2] at hL hI
      unfold rtErr
      rw [hL, hI, if_neg (by decide), if_pos rfl, if_pos hE0, esay.2.1, if_pos hact]
    have hfin2 : pkFin (insL xs l []) = pkFin xs := by
      rw [hfin]
      unfold pkFin rtFin
      rw [hI, if_pos rfl, esay.2.1, ← hlast]
      unfold segR
      rw [if_pos (by unfold thereR; rw [decide_eq_true_eq]; exact ⟨by omega, by show (0 : Int) < ((l ++ [(getL xs).d]).reverse.length : Nat); simp⟩)]
      rfl
    have hup : pkUp (insL xs l []) = shiftP (((40 + (putR (viaR xs l [])).length : Nat) : Int) - (40 : Nat)) (pkUp xs) := by
      rw [hU]
      unfold pkUp
      rw [hW2]
      show lastP (_ :: _) = _
      rw [lastP_cons _ (by simpa using w2), lastP_map _ w2]
    have hbody : pkBody (insL xs l []) = pkBody xs := by
      unfold pkBody
      rw [hup]
      show (insL xs l []).drop ((pkUp xs).a + _).toNat = xs.drop (pkUp xs).a.toNat
      rw [w3]
      have e1 : ((m : Int) + (((40 + (putR (viaR xs l [])).length : Nat) : Int) - (40 : Nat))).toNat = 40 + ((putR (viaR xs l [])).length + (m - 40)) := by omega
      rw [e1, ← List.drop_drop, ed, ← List.drop_drop, List.drop_left' rfl, List.drop_drop, Int.toNat_natCast]
      congr 1
      omega
    have hsrc : (getL (insL xs l [])).s = (getL xs).s := by rw [eL]; rfl
    have hk2 : (pkUp (insL xs l [])).k = (pkUp xs).k := by rw [hup]; rfl
    have hE : pkE (insL xs l []) = 0 := by
      unfold pkE
      rw [if_pos hpre0, hsrc, hfin2, hk2, hbody]
      exact hu
    refine ⟨hE, ?_⟩
    unfold pkB
    rw [if_pos hE]
    unfold pkSays rtR
    rw [hI, if_pos rfl, hfin2, hk2, hbody, hsrc, eL, esay.2.1]
  · refine .inl ?_
    rw [hs] at hW
    have hW2 : pkW (insL xs l []) = ([], 8) := hW
    have hp8 : preE (insL xs l []) = 8 := by
      unfold preE
      rw [if_neg (by omega), if_pos eE, eL, if_pos hln, hW2]
      rfl
    refine ⟨by unfold pkE; rw [if_neg (by rw [hp8]; omega), hp8], ?_, ?_⟩
    · intro e
      rw [e, walkR_last _ 7 6 _ (by omega) (by omega) (by omega) (by omega)] at hs
      simp at hs
    · intro e
      rw [e, walkR_last _ 7 58 _ (by omega) (by omega) (by omega) (by omega)] at hs
      simp at hs
end
end Go.Proofs.YtdpbhhoabnmbpaaGreat
