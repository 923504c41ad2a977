/- A segment that was put is parsed as what it was; one that was sealed has its sum. No condition. -/
import Derived.Test.YtkbgfddicpnbmaaTcK
import Derived.Test.YtkbgfddicpnbmaaTcP
import Derived.Test.YtkbgfddicpnbmaaCkG
namespace Go.Proofs.Ytkbgfddicpnbmaa
open Go.RowKit
set_option linter.unusedVariables false

theorem two_num {x : Int} (h : 0 ≤ x ∧ x ≤ 65535) : x / 256 % 256 * 256 + x % 256 = x := by omega
theorem four_num {x : Int} (h : 0 ≤ x ∧ x < 4294967296) : x / 16777216 * 16777216 + x / 65536 % 256 * 65536 + x / 256 % 256 * 256 + x % 256 = x := by omega
/-- the bytes of a segment, one by one -/
theorem putS_lit {x : Sb} (h : canS x = 0) : putS x = x.sp / 256 % 256 :: x.sp % 256 :: x.dp / 256 % 256 :: x.dp % 256 :: x.sq / 16777216 :: x.sq / 65536 % 256 :: x.sq / 256 % 256 :: x.sq % 256 :: x.ak / 16777216 :: x.ak / 65536 % 256 :: x.ak / 256 % 256 :: x.ak % 256 ::
    (5 + ((putO x.os).length : Int) / 4) * 16 :: x.fl :: x.wi / 256 % 256 :: x.wi % 256 :: x.su / 256 % 256 :: x.su % 256 :: x.ur / 256 % 256 :: x.ur % 256 :: (putO x.os ++ x.ps) := by
  unfold putS
  rw [if_pos h, List.append_assoc]
  rfl
theorem parseSb_put {x : Sb} (h : canS x = 0) (hsq : 0 ≤ x.sq ∧ x.sq < 4294967296) (hak : 0 ≤ x.ak ∧ x.ak < 4294967296) : parseS (putS x) = (x, 0) := by
  obtain ⟨hf, hco, hl⟩ := canS_zero h
  obtain ⟨b1, b2, b3, b4, b5, b6⟩ := fitB_spec hf
  obtain ⟨hpp, hq40, hq4⟩ := parse_put hco
  have hlit := putS_lit h
  generalize hq : (putO x.os).length = q at *
  have hlen : (putS x).length = 20 + q + x.ps.length := by rw [hlit]; simp [hq]; omega
  have h12 : (putS x).getD 12 0 = (5 + (q : Int) / 4) * 16 := by rw [hlit]; rfl
  have ha : aheadS (putS x) = (20 + q, 0) := by
    unfold aheadS
    rw [h12, hlen, if_neg (by omega), if_neg (by omega), if_neg (by omega)]
    congr 1
    omega
  have hmid : ((putS x).take (20 + q)).drop 20 = putO x.os := by
    rw [hlit]
    have e : ∀ (l : List Int), List.take (20 + q) (x.sp / 256 % 256 :: x.sp % 256 :: x.dp / 256 % 256 :: x.dp % 256 :: x.sq / 16777216 :: x.sq / 65536 % 256 :: x.sq / 256 % 256 :: x.sq % 256 :: x.ak / 16777216 :: x.ak / 65536 % 256 :: x.ak / 256 % 256 :: x.ak % 256 ::
      (5 + (q : Int) / 4) * 16 :: x.fl :: x.wi / 256 % 256 :: x.wi % 256 :: x.su / 256 % 256 :: x.su % 256 :: x.ur / 256 % 256 :: x.ur % 256 :: l) = x.sp / 256 % 256 :: x.sp % 256 :: x.dp / 256 % 256 :: x.dp % 256 :: x.sq / 16777216 :: x.sq / 65536 % 256 :: x.sq / 256 % 256 :: x.sq % 256 :: x.ak / 16777216 :: x.ak / 65536 % 256 :: x.ak / 256 % 256 :: x.ak % 256 ::
      (5 + (q : Int) / 4) * 16 :: x.fl :: x.wi / 256 % 256 :: x.wi % 256 :: x.su / 256 % 256 :: x.su % 256 :: x.ur / 256 % 256 :: x.ur % 256 :: l.take q := fun l => by
      rw [show 20 + q = q + 20 by omega]
      simp only [List.take_succ_cons]
    rw [e, List.take_left' hq]
    rfl
  have hdr : (putS x).drop (20 + q) = x.ps := by
    rw [hlit, ← List.drop_drop]
    show List.drop q (putO x.os ++ x.ps) = x.ps
    rw [List.drop_left' hq]
  unfold parseS
  rw [ha]
  dsimp only
  rw [if_pos rfl, hmid, hpp]
  dsimp only
  rw [if_pos rfl]
  unfold segS
  rw [hdr]
  have n0 : num2 (putS x) 0 = x.sp := by rw [hlit]; exact two_num b1
  have n2 : num2 (putS x) 2 = x.dp := by rw [hlit]; exact two_num b2
  have n4 : num4 (putS x) 4 = x.sq := by rw [hlit]; exact four_num hsq
  have n8 : num4 (putS x) 8 = x.ak := by rw [hlit]; exact four_num hak
  have n13 : (putS x).getD 13 0 = x.fl := by rw [hlit]; rfl
  have n14 : num2 (putS x) 14 = x.wi := by rw [hlit]; exact two_num b3
  have n16 : num2 (putS x) 16 = x.su := by rw [hlit]; exact two_num b4
  have n18 : num2 (putS x) 18 = x.ur := by rw [hlit]; exact two_num b5
  rw [n0, n2, n4, n8, n13, n14, n16, n18]
theorem parseS_put {t : Sg} {w : World} {B : Nat} (h : canS t.v = 0) (ht : t.ok w B) : parseS (putS t.v) = (t.v, 0) := parseSb_put h ht.sq ht.ak

theorem putS_all {x : Sb} (hps : AllB x.ps) (hos : ∀ o ∈ x.os, AllB o.2) (hsq : 0 ≤ x.sq ∧ x.sq < 4294967296) (hak : 0 ≤ x.ak ∧ x.ak < 4294967296) : AllB (putS x) := by
  unfold putS
  split
  · rename_i h
    obtain ⟨hf, hco, hl⟩ := canS_zero h
    obtain ⟨b1, b2, b3, b4, b5, b6⟩ := fitB_spec hf
    obtain ⟨-, hq40, hq4⟩ := parse_put hco
    unfold headS
    refine (AllB.append ?_ (putO_all hos)).append hps
    refine ((((((((two_all _).append (two_all _)).append (four_all _ hsq)).append (four_all _ hak)).append ?_).append (two_all _)).append (two_all _)).append (two_all _))
    exact .cons (by omega) (by omega) (.cons (by omega) (by omega) .nil)
  · exact AllB.nil
/-- the bytes with another sum -/
theorem putS_su {x : Sb} (h : canS x = 0) {z : Int} (h0 : 0 ≤ z) (h1 : z ≤ 65535) : putS { x with su := z } = ((putS { x with su := 0 }).set 16 (z / 256 % 256)).set 17 (z % 256) := by
  rw [putS_lit (canS_su h z h0 h1), putS_lit (canS_su h 0 (by omega) (by omega))]
  rfl
theorem sealed_fine {s d : List Int} (vs : AllB s) (vd : AllB d) {x : Sb} (h : canS x = 0) (hps : AllB x.ps) (hos : ∀ o ∈ x.os, AllB o.2) (hsq : 0 ≤ x.sq ∧ x.sq < 4294967296) (hak : 0 ≤ x.ak ∧ x.ak < 4294967296) :
    fineB s d 6 (putS { x with su := sumS s d x }) = true := by
  have hr := sumS_range s d x
  rw [putS_su h hr.1 hr.2]
  have hc := canS_su h 0 (by omega) (by omega)
  have hl : 18 ≤ (putS { x with su := 0 }).length := by rw [putS_lit hc]; simp
  have g16 : (putS { x with su := 0 }).getD 16 0 = 0 := by rw [putS_lit hc]; rfl
  have g17 : (putS { x with su := 0 }).getD 17 0 = 0 := by rw [putS_lit hc]; rfl
  exact fine_law vs vd (putS_all (x := { x with su := 0 }) hps hos hsq hak) 6 16 hl rfl g16 g17
end Go.Proofs.Ytkbgfddicpnbmaa
