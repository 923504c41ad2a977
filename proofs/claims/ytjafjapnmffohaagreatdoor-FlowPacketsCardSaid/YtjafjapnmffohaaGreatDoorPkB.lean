/- The page's words on whole packets: what one says, or why there is none; packets made; why one is dropped. No program here. -/
import Derived.Test.YtjafjapnmffohaaGreatDoorPkA
import Derived.Test.YtjafjapnmffohaaGreatDoorJTd
import Derived.Test.YtjafjapnmffohaaGreatDoorJIc
import Derived.Test.YtjafjapnmffohaaGreatDoorJDu
import Derived.Test.YtjafjapnmffohaaGreatDoorLawWkW
set_option maxRecDepth 100000
namespace Go.Proofs.YtjafjapnmffohaaGreatDoor
open Go.RowKit
set_option linter.unusedVariables false

/-- is a routing header not the first one? is the first one such? -/
def latB (ps : List Pt) : Bool := (ps.drop 1).any fun q => q.k == 43
def rtIs (ps : List Pt) : Bool := decide ((ps.getD 0 zeroP).k = 43)
/-- the routing header's error, it, and where the packet goes at last -/
def rtErr (xs : List Int) (ps : List Pt) (d : List Int) : Int :=
  if latB ps = true then 7 else if rtIs ps = true then
    (if errR (xs.drop 40) = 0 then (if segR (saysR (xs.drop 40)).sg (saysR (xs.drop 40)).le = d then 0 else 5) else errR (xs.drop 40))
  else 0
def rtR (xs : List Int) (ps : List Pt) : Rb := if rtIs ps = true then saysR (xs.drop 40) else zeroRb
def rtFin (xs : List Int) (ps : List Pt) (d : List Int) : List Int := if rtIs ps = true then (saysR (xs.drop 40)).sg.getD 0 zero16 else d
/-- the last header -/
def lastP (ps : List Pt) : Pt := ps.getD (ps.length - 1) zeroP
/-- the upper part: its error, the segment, the message -/
def upE (s f : List Int) (k : Int) (bs : List Int) : Int :=
  if k = 6 then (if (parseS bs).2 = 0 then (if fineB s f 6 bs = true then 0 else 6) else (parseS bs).2) else if k = 58 then parseE s f bs else 7
def upT (k : Int) (bs : List Int) : Sb := if k = 6 then (parseS bs).1 else zeroSb
def upM (s f : List Int) (k : Int) (bs : List Int) : Mb := if k = 58 then parseM s f bs else zeroMb
/-- the headers of a packet -/
def pkW (xs : List Int) : List Pt × Int := walkL xs (getL xs).nx 40
/-- the error ahead of the upper part; a packet's error; the packet -/
def preE (xs : List Int) : Int :=
  if 1500 < xs.length then 4 else if getE xs = 0 then
    (if (getL xs).ln = (xs.length : Int) - 40 then (if (pkW xs).2 = 0 then rtErr xs (pkW xs).1 (getL xs).d else (pkW xs).2) else 5)
  else getE xs
def pkFin (xs : List Int) : List Int := rtFin xs (pkW xs).1 (getL xs).d
def pkUp (xs : List Int) : Pt := lastP (pkW xs).1
def pkBody (xs : List Int) : List Int := xs.drop (pkUp xs).a.toNat
def pkE (xs : List Int) : Int := if preE xs = 0 then upE (getL xs).s (pkFin xs) (pkUp xs).k (pkBody xs) else preE xs
def pkSays (xs : List Int) : Pb := ⟨getL xs, rtIs (pkW xs).1, rtR xs (pkW xs).1, pkFin xs, (pkUp xs).k, upT (pkUp xs).k (pkBody xs), upM (getL xs).s (pkFin xs) (pkUp xs).k (pkBody xs), pkBody xs⟩
def pkB (xs : List Int) : Pb := if pkE xs = 0 then pkSays xs else zeroPb
/-- why a packet with that error is dropped -/
def reasonK (e : Int) : Int := if e = 0 then 0 else if e = 3 then 1 else if e = 6 then 3 else if e = 7 then 4 else if e = 4 then 10 else if e = 13 then 9 else 2

/-- a packet with an upper part; with a segment; with a message -/
def madeH (n : Nat) (s d : List Int) (k : Int) : Hd := ⟨0, 0, n, k, 64, s, d⟩
def madeE (bs : List Int) : Int := if 1460 < bs.length then 4 else 0
def madeL (s d : List Int) (k : Int) (bs : List Int) : List Int := if madeE bs = 0 then headL (madeH bs.length s d k) ++ bs else []
def sealB (s d : List Int) (x : Sb) : Sb := if canS x = 0 then { x with su := sumS s d x } else x
def tcpE (s d : List Int) (x : Sb) : Int := if canS x = 0 then madeE (putS (sealB s d x)) else canS x
def tcpL (s d : List Int) (x : Sb) : List Int := if canS x = 0 then madeL s d 6 (putS (sealB s d x)) else []
def icmpE (s d : List Int) (x : Mb) : Int := if okM x = true then madeE (putM s d x) else 2
def icmpL (s d : List Int) (x : Mb) : List Int := if okM x = true then madeL s d 58 (putM s d x) else []

theorem lastP_cons (p : Pt) {ps : List Pt} (h : ps ≠ []) : lastP (p :: ps) = lastP ps := by
  cases ps with
  | nil => exact absurd rfl h
  | cons q r =>
    unfold lastP
    simp only [List.length_cons, Nat.add_sub_cancel]
    rfl
theorem walkR_where (xs : List Int) : ∀ (ps : List Pt) (f : Nat) (nx : Int) (a : Nat), a ≤ xs.length → walkR xs f nx a = (ps, 0) → ∃ m : Nat, (lastP ps).a = m ∧ a ≤ m ∧ m ≤ xs.length
  | [], f, nx, a, ha, h => absurd (by rw [h]) (walkR_some xs f nx a (by rw [h]))
  | p :: rest, f, nx, a, ha, h => by
    rcases walkR_inv xs f nx a p rest h with ⟨hr, hp, -⟩ | ⟨f', hk, hp, h2, hz, hr, hw⟩
    · subst hr hp
      exact ⟨a, rfl, Nat.le_refl _, ha⟩
    · obtain ⟨m, h1, h3, h4⟩ := walkR_where xs rest f' _ _ hz hw
      rw [lastP_cons p hr]
      exact ⟨m, h1, by omega, h4⟩
theorem pkW_zero {xs : List Int} (hl : 40 ≤ xs.length) (h : (pkW xs).2 = 0) : walkR xs 8 (getL xs).nx 40 = ((pkW xs).1, 0) ∧ (pkW xs).1 ≠ [] ∧ ∃ m : Nat, (pkUp xs).a = m ∧ 40 ≤ m ∧ m ≤ xs.length := by
  have e : pkW xs = walkR xs 8 (getL xs).nx 40 := by
    unfold pkW walkL
    rw [if_neg (by omega)]
    rfl
  have e2 : walkR xs 8 (getL xs).nx 40 = ((pkW xs).1, 0) := by rw [← e, ← h]
  exact ⟨e2, by rw [e]; exact walkR_some xs 8 _ 40 (by rw [← e]; exact h), walkR_where xs _ 8 _ 40 hl e2⟩
theorem preE_zero {xs : List Int} (h : preE xs = 0) : xs.length ≤ 1500 ∧ getE xs = 0 ∧ 40 ≤ xs.length ∧ xs.getD 0 0 / 16 = 6 ∧ (getL xs).ln = (xs.length : Int) - 40 ∧ (pkW xs).2 = 0 ∧ rtErr xs (pkW xs).1 (getL xs).d = 0 := by
  unfold preE at h
  by_cases h1 : 1500 < xs.length
  · rw [if_pos h1] at h; omega
  rw [if_neg h1] at h
  by_cases h2 : getE xs = 0
  · rw [if_pos h2] at h
    by_cases h3 : (getL xs).ln = (xs.length : Int) - 40
    · rw [if_pos h3] at h
      by_cases h4 : (pkW xs).2 = 0
      · rw [if_pos h4] at h
        rcases getE_cases xs with ⟨g1, e1, e2⟩ | ⟨g1, g2, e1, e2⟩ | ⟨g1, g2, e1, e2⟩
        · omega
        · exact ⟨by omega, h2, g1, g2, h3, h4, h⟩
        · omega
      · rw [if_neg h4] at h; exact absurd h h4
    · rw [if_neg h3] at h; omega
  · rw [if_neg h2] at h; exact absurd h h2
theorem pkE_zero {xs : List Int} (h : pkE xs = 0) : preE xs = 0 ∧ upE (getL xs).s (pkFin xs) (pkUp xs).k (pkBody xs) = 0 := by
  unfold pkE at h
  by_cases h1 : preE xs = 0
  · rw [if_pos h1] at h
    exact ⟨h1, h⟩
  · rw [if_neg h1] at h
    exact absurd h h1

/-- what a packet without extension headers says -/
theorem plain_says {h : Hd} {bs : List Int} (hk : h.ok) (hc : canB h = true) (hln : h.ln = bs.length) (hlen : bs.length ≤ 1460) (hnx : h.nx = 6 ∨ h.nx = 58) :
    preE (headL h ++ bs) = 0 ∧ pkW (headL h ++ bs) = ([⟨h.nx, 40, bs.length⟩], 0) ∧ pkFin (headL h ++ bs) = h.d ∧ pkUp (headL h ++ bs) = ⟨h.nx, 40, bs.length⟩ ∧ pkBody (headL h ++ bs) = bs ∧ getL (headL h ++ bs) = h := by
  have eL := getL_back (ys := bs) hk hc
  have eE := getE_back (ys := bs) hk hc
  have el := len_back (ys := bs) hk
  have ed := drop_back (ys := bs) hk
  have eW : pkW (headL h ++ bs) = ([⟨h.nx, 40, bs.length⟩], 0) := by
    unfold pkW walkL
    rw [eL, if_neg (by rw [el]; omega)]
    show walkR (headL h ++ bs) 8 h.nx 40 = _
    rw [walkR_last _ 8 h.nx 40 (by omega) (by omega) (by omega) (by omega), el]
    congr 3
    omega
  have eU : pkUp (headL h ++ bs) = ⟨h.nx, 40, bs.length⟩ := by
    unfold pkUp
    rw [eW]
    rfl
  have eI : rtIs [(⟨h.nx, 40, (bs.length : Int)⟩ : Pt)] = false := by
    unfold rtIs
    show decide (h.nx = 43) = false
    rw [decide_eq_false]
    omega
  refine ⟨?_, eW, ?_, eU, ?_, eL⟩
  · unfold preE
    rw [if_neg (by rw [el]; omega), if_pos eE, eL, if_pos (by rw [el, hln]; omega), eW]
    unfold rtErr
    rw [eI]
    rfl
  · unfold pkFin rtFin
    rw [eW, eI, eL]
    rfl
  · unfold pkBody
    rw [eU]
    exact ed
theorem madeH_ok {n : Nat} {s d : List Int} {k : Int} (hn : n ≤ 65535) (hs : s.length = 16) (hd : d.length = 16) (vs : AllB s) (vd : AllB d) (hk : 0 ≤ k ∧ k ≤ 255) : (madeH n s d k).ok ∧ canB (madeH n s d k) = true := by
  refine ⟨⟨by unfold i64ok madeH; dsimp only; omega, by unfold i64ok madeH; dsimp only; omega, by unfold i64ok madeH; dsimp only; omega, by unfold i64ok madeH; dsimp only; omega, by unfold i64ok madeH; dsimp only; omega, hs, hd, vs, vd⟩, ?_⟩
  unfold canB
  rw [decide_eq_true]
  unfold madeH
  dsimp only
  omega
theorem madeE_zero {bs : List Int} (h : madeE bs = 0) : bs.length ≤ 1460 := by
  unfold madeE at h
  by_cases h1 : 1460 < bs.length
  · rw [if_pos h1] at h; omega
  · omega
theorem madeL_yes {s d : List Int} {k : Int} {bs : List Int} (h : madeE bs = 0) : madeL s d k bs = headL (madeH bs.length s d k) ++ bs := by unfold madeL; rw [if_pos h]
theorem sealB_yes {s d : List Int} {x : Sb} (h : canS x = 0) : sealB s d x = { x with su := sumS s d x } ∧ canS (sealB s d x) = 0 := by
  have e : sealB s d x = { x with su := sumS s d x } := by unfold sealB; rw [if_pos h]
  rw [e]
  exact ⟨rfl, canS_su h _ (sumS_range s d x).1 (sumS_range s d x).2⟩

section
variable {s d : List Int} (hs : s.length = 16) (hd : d.length = 16) (vs : AllB s) (vd : AllB d)
include hs hd vs vd
/-- a packet with a segment is read as what it was -/
theorem tcp_back {x : Sb} (hps : AllB x.ps) (hos : ∀ o ∈ x.os, AllB o.2) (hsq : 0 ≤ x.sq ∧ x.sq < 4294967296) (hak : 0 ≤ x.ak ∧ x.ak < 4294967296) (h : tcpE s d x = 0) :
    canS x = 0 ∧ pkE (tcpL s d x) = 0 ∧ pkB (tcpL s d x) = ⟨madeH (putS (sealB s d x)).length s d 6, false, zeroRb, d, 6, sealB s d x, zeroMb, putS (sealB s d x)⟩ ∧ (tcpL s d x).length ≤ 1500 := by
  have hc : canS x = 0 := by
    unfold tcpE at h
    by_cases h1 : canS x = 0
    · exact h1
    · rw [if_neg h1] at h; exact absurd h h1
  have hm : madeE (putS (sealB s d x)) = 0 := by unfold tcpE at h; rwa [if_pos hc] at h
  have hl := madeE_zero hm
  obtain ⟨e1, e2⟩ := sealB_yes (s := s) (d := d) hc
  have eT : tcpL s d x = headL (madeH (putS (sealB s d x)).length s d 6) ++ putS (sealB s d x) := by unfold tcpL; rw [if_pos hc, madeL_yes hm]
  have hf : fineB s d 6 (putS (sealB s d x)) = true := by rw [e1]; exact sealed_fine vs vd hc hps hos hsq hak
  have hp : parseS (putS (sealB s d x)) = (sealB s d x, 0) := parseSb_put e2 (by rw [e1]; exact hsq) (by rw [e1]; exact hak)
  obtain ⟨k1, k2⟩ := madeH_ok (n := (putS (sealB s d x)).length) (k := 6) (by omega) hs hd vs vd (by omega)
  obtain ⟨a1, a2, a3, a4, a5, a6⟩ := plain_says k1 k2 rfl hl (.inl rfl)
  rw [← eT] at a1 a2 a3 a4 a5 a6
  have eE : pkE (tcpL s d x) = 0 := by
    unfold pkE
    rw [if_pos a1, a4, a5, a6, a3]
    show upE s d 6 _ = 0
    unfold upE
    rw [if_pos rfl, hp, if_pos rfl, if_pos hf]
  refine ⟨hc, eE, ?_, ?_⟩
  · unfold pkB
    rw [if_pos eE]
    unfold pkSays
    rw [a2, a4, a5, a6, a3]
    have i1 : rtIs [(⟨(madeH (putS (sealB s d x)).length s d 6).nx, 40, ((putS (sealB s d x)).length : Int)⟩ : Pt)] = false := rfl
    dsimp only
    unfold rtR
    rw [i1]
    show (⟨_, false, zeroRb, d, 6, upT 6 _, upM s d 6 _, _⟩ : Pb) = _
    unfold upT upM
    rw [if_pos rfl, if_neg (by omega), hp]
  · rw [eT, len_back k1]
    omega
/-- a packet with a message is read as what it was -/
theorem icmp_back {x : Mb} (hb : AllB x.bs) (hw : 0 ≤ x.wd ∧ x.wd < 4294967296) (h : icmpE s d x = 0) :
    okM x = true ∧ pkE (icmpL s d x) = 0 ∧ pkB (icmpL s d x) = ⟨madeH (putM s d x).length s d 58, false, zeroRb, d, 58, zeroSb, x, putM s d x⟩ ∧ (icmpL s d x).length ≤ 1500 := by
  have hc : okM x = true := by
    unfold icmpE at h
    by_cases h1 : okM x = true
    · exact h1
    · rw [if_neg h1] at h; omega
  have hm : madeE (putM s d x) = 0 := by unfold icmpE at h; rwa [if_pos hc] at h
  have hl := madeE_zero hm
  have eT : icmpL s d x = headL (madeH (putM s d x).length s d 58) ++ putM s d x := by unfold icmpL; rw [if_pos hc, madeL_yes hm]
  obtain ⟨p1, p2⟩ := parse_putM vs vd hc hw hb
  obtain ⟨k1, k2⟩ := madeH_ok (n := (putM s d x).length) (k := 58) (by omega) hs hd vs vd (by omega)
  obtain ⟨a1, a2, a3, a4, a5, a6⟩ := plain_says k1 k2 rfl hl (.inr rfl)
  rw [← eT] at a1 a2 a3 a4 a5 a6
  have eE : pkE (icmpL s d x) = 0 := by
    unfold pkE
    rw [if_pos a1, a4, a5, a6, a3]
    show upE s d 58 _ = 0
    unfold upE
    rw [if_neg (by omega), if_pos rfl, p1]
  refine ⟨hc, eE, ?_, ?_⟩
  · unfold pkB
    rw [if_pos eE]
    unfold pkSays
    rw [a2, a4, a5, a6, a3]
    have i1 : rtIs [(⟨(madeH (putM s d x).length s d 58).nx, 40, ((putM s d x).length : Int)⟩ : Pt)] = false := rfl
    dsimp only
    unfold rtR
    rw [i1]
    show (⟨_, false, zeroRb, d, 58, upT 58 _, upM s d 58 _, _⟩ : Pb) = _
    unfold upT upM
    rw [if_neg (by omega), if_pos rfl, p2]
  · rw [eT, len_back k1]
    omega
end
end Go.Proofs.YtjafjapnmffohaaGreatDoor
