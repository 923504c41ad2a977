/- The page's words on packets with a header: what is got of a header that was put, and laid anew. No program here. -/
import Derived.Test.YtpaomhgdpncdoaaLawSxG
import Derived.Test.YtpaomhgdpncdoaaDtE
namespace Go.Proofs.Ytpaomhgdpncdoaa
open Go.RowKit
set_option linter.unusedVariables false

theorem getE_back {h : Hd} {ys : List Int} (hk : h.ok) (hc : canB h = true) : getE (headL h ++ ys) = 0 := (get_back h ys hk hc).1
theorem getL_back {h : Hd} {ys : List Int} (hk : h.ok) (hc : canB h = true) : getL (headL h ++ ys) = h := by
  have h1 := (get_back h ys hk hc).2
  unfold getH at h1
  rw [if_pos (getE_back hk hc)] at h1
  exact h1
theorem drop_back {h : Hd} {ys : List Int} (hk : h.ok) : (headL h ++ ys).drop 40 = ys := List.drop_left' (headL_length hk)
theorem len_back {h : Hd} {ys : List Int} (hk : h.ok) : (headL h ++ ys).length = 40 + ys.length := by rw [List.length_append, headL_length hk]
theorem putL_yes {h : Hd} (hc : canB h = true) : putL h = headL h := by unfold putL; rw [if_pos hc]
theorem sizedH_can {h : Hd} {m : Int} (hc : canB h = true) (h0 : 0 ≤ m) (h1 : m ≤ 65535) : canB (sizedH m h) = true := by
  have := can_range hc
  unfold canB sizedH
  rw [decide_eq_true_eq]
  dsimp only
  omega
theorem sized_out {h : Hd} {ys : List Int} {N : Nat} (hk : h.ok) (hc : canB h = true) (hl : ys.length = N) (hN : N ≤ 65535) :
    outE (headL h ++ ys) (szE (headL h ++ ys)) = 0 ∧ outL (headL h ++ ys) (szH (headL h ++ ys)) (szE (headL h ++ ys)) = headL (sizedH (N : Int) h) ++ ys := by
  have hlen : ((headL h ++ ys).length : Int) - 40 = N := by rw [len_back hk, hl]; omega
  have e1 : szE (headL h ++ ys) = 0 := by unfold szE; rw [hlen, if_neg (by omega)]
  have e2 : szH (headL h ++ ys) = sizedH (N : Int) h := by unfold szH; rw [hlen, if_neg (by omega), getL_back hk hc]
  have e3 : outE (headL h ++ ys) 0 = 0 := by unfold outE; rw [if_pos (getE_back hk hc)]
  rw [e1]
  refine ⟨e3, ?_⟩
  unfold outL
  rw [if_pos e3, e2, putL_yes (sizedH_can hc (by omega) (by omega)), drop_back hk]
end Go.Proofs.Ytpaomhgdpncdoaa
