/- The laws SixGets and SixBack answer true for every input. Condition: the slice is at most 2^47 - 4096 bytes long. -/
import Derived.Test.YtjafjapnmffohaaGreatDoorJSy
set_option maxRecDepth 100000
namespace Go.Proofs.YtjafjapnmffohaaGreatDoor
open Go.RowKit
set_option linter.unusedVariables false

theorem headL_cons (h : Hd) (ys : List Int) : headL h ++ ys = firstN h / 16777216 :: firstN h / 65536 % 256 :: firstN h / 256 % 256 :: firstN h % 256 :: h.ln / 256 % 256 :: h.ln % 256 :: h.nx :: h.hp :: (h.s ++ (h.d ++ ys)) := by
  unfold headL four two
  simp only [List.cons_append, List.nil_append, List.append_assoc]
theorem get_back (h : Hd) (ys : List Int) (hk : h.ok) (hc : canB h = true) : getE (headL h ++ ys) = 0 ∧ getH (headL h ++ ys) = h := by
  obtain ⟨h0, h1, h2, h3, h4⟩ := can_range hc
  have hl : 40 ≤ (headL h ++ ys).length := by rw [List.length_append, headL_length hk]; omega
  have hf : (headL h ++ ys).getD 0 0 / 16 = 6 := by
    rw [headL_cons]
    show firstN h / 16777216 / 16 = 6
    unfold firstN; omega
  have hL : getL (headL h ++ ys) = h := by
    rw [headL_cons]
    obtain ⟨cl, lb, ln, nx, hp, s, d⟩ := h
    have hs : s.length = 16 := hk.s
    have hd : d.length = 16 := hk.d
    have e1 : List.take 16 (s ++ (d ++ ys)) = s := List.take_left' hs
    have e2 : List.drop 16 (s ++ (d ++ ys)) = d ++ ys := List.drop_left' hs
    have e3 : List.take 16 (d ++ ys) = d := List.take_left' hd
    unfold getL firstN
    dsimp only at h0 h1 h2 h3 h4
    simp only [List.getD_cons_zero, List.getD_cons_succ, List.drop_succ_cons, List.drop_zero]
    rw [e1, e2, e3]
    congr 1
    · omega
    · omega
    · omega
  rcases getE_cases (headL h ++ ys) with ⟨g1, e1, e2⟩ | ⟨g1, g2, e1, e2⟩ | ⟨g1, g2, e1, e2⟩
  · omega
  · exact ⟨e1, e2.trans hL⟩
  · exact absurd hf g2

end Go.Proofs.YtjafjapnmffohaaGreatDoor
