/- Texts joined.
  lives and plain of layer 11. No condition.
  The page's words on packets with a routing header: what such a packet is without it, and one segment on. No program here.
  A packet on its way by others, step by step, as functions of lists. No program here.
  The document's head and Header. Condition: at most 2^47 - 4096 bytes.
  The document's Remove. Condition: at most 2^47 - 4096 bytes.
  The document's Advance. Condition: at most 2^47 - 4096 bytes.
  The document's Insert. Condition: at most 2^47 - 4096 bytes, others and parts.
-/
import Derived.Test.YtdpbhhoabnmbpaaGreatJDt
import Derived.Test.YtdpbhhoabnmbpaaGreatJOct
import Derived.Test.YtdpbhhoabnmbpaaGreatJReg
import Derived.Test.YtdpbhhoabnmbpaaGreatJSy
import Derived.Test.YtdpbhhoabnmbpaaGreatJSrB
import Derived.Test.YtdpbhhoabnmbpaaGreatSlc
import Derived.Test.YtdpbhhoabnmbpaaGreatJSx
import Derived.Test.YtdpbhhoabnmbpaaGreatJSrA
set_option maxRecDepth 100000
namespace Go.Proofs.YtdpbhhoabnmbpaaGreat
open Go.RowKit
set_option linter.unusedVariables false

end Go.Proofs.YtdpbhhoabnmbpaaGreat

namespace Go.Proofs.YtdpbhhoabnmbpaaGreat
open Go.RowKit
set_option linter.unusedVariables false

/-- a packet of a fixed header, a routing header and bytes -/
structure Pk (h : Hd) (r : Rb) (zs : List Int) : Prop where
  ok : h.ok
  can : canB h = true
  nx : h.nx = 43
  ln : h.ln = ((putR r).length : Int) + (zs.length : Int)
  sg : AllA r.sg
  cr : canR r = 0
def pkL (h : Hd) (r : Rb) (zs : List Int) : List Int := headL h ++ (putR r ++ zs)
section
variable {h : Hd} {r : Rb} {zs : List Int} (p : Pk h r zs)
include p
theorem Pk.len : (pkL h r zs).length = 40 + (putR r).length + zs.length := by unfold pkL; rw [len_back p.ok, List.length_append]; omega
theorem Pk.getL : getL (pkL h r zs) = h := getL_back p.ok p.can
theorem Pk.getE : getE (pkL h r zs) = 0 := getE_back p.ok p.can
theorem Pk.drop : (pkL h r zs).drop 40 = putR r ++ zs := drop_back p.ok
theorem Pk.whole : wholeE (pkL h r zs) = 0 := by
  unfold wholeE
  rw [if_pos p.getE, p.getL, p.len, if_pos (by rw [p.ln]; omega)]
theorem Pk.says : hdrE (pkL h r zs) = 0 ∧ saysR ((pkL h r zs).drop 40) = r ∧ wideR ((pkL h r zs).drop 40) = (putR r).length := by
  obtain ⟨e1, e2, e3⟩ := parse_putR p.sg p.cr zs
  rw [p.drop]
  unfold parseR at e2
  unfold lenR at e3
  rw [if_pos e1] at e2 e3
  refine ⟨?_, e2, by rw [e3, putR_len p.sg p.cr]⟩
  unfold hdrE
  rw [if_pos p.whole, p.getL, if_pos p.nx, p.drop]
  exact e1
theorem putR_left {v : Int} (h0 : 0 ≤ v) (h1 : v < r.sg.length) : canR { r with le := v } = 0 ∧ (putR r).set 3 v = putR { r with le := v } := by
  obtain ⟨c1, c2, c3, c4⟩ := canR_zero p.cr
  obtain ⟨b1, b2, b3, b4⟩ := fitR_spec c1
  have hc : canR { r with le := v } = 0 := by
    unfold canR fitR
    dsimp only
    rw [if_pos (by rw [decide_eq_true_eq]; omega), if_neg (by omega), if_neg (by omega)]
    exact c4
  refine ⟨hc, ?_⟩
  rw [putR_yes p.cr, putR_yes hc]
  rfl
theorem Pk.next (h0 : 0 < r.le) (h1 : 1 < h.hp) : Pk (toH (segR r.sg (r.le - 1)) (nearH h)) { r with le := r.le - 1 } zs := by
  obtain ⟨c1, c2, c3, c4⟩ := canR_zero p.cr
  obtain ⟨f1, f2⟩ := putR_left p (v := r.le - 1) (by omega) (by omega)
  refine ⟨toH_ok (nearH_ok p.ok h1) (segR_len p.sg (r.le - 1)) (segR_all p.sg (r.le - 1)), toH_can (nearH_can p.can h1), p.nx, ?_, p.sg, f1⟩
  rw [← f2, List.length_set]
  exact p.ln
end

theorem insE_zero {xs : List Int} {l : List (List Int)} {tl : List Ob} (h : insE xs l tl = 0) : wholeE xs = 0 ∧ ¬ ((getL xs).nx = 43 ∨ (getL xs).nx = 0) ∧ (0 < l.length ∧ l.length ≤ 9) ∧ canR (viaR xs l tl) = 0 ∧ xs.length + (putR (viaR xs l tl)).length ≤ 1500 := by
  by_cases h1 : wholeE xs = 0
  · by_cases h2 : (getL xs).nx = 43 ∨ (getL xs).nx = 0
    · rw [insE_kind h1 h2] at h; omega
    · by_cases h3 : l.length = 0 ∨ 9 < l.length
      · rw [insE_many h1 h2 h3] at h; omega
      · by_cases h4 : canR (viaR xs l tl) = 0
        · by_cases h5 : 1500 < xs.length + (putR (viaR xs l tl)).length
          · rw [insE_long h1 h2 h3 h4 h5] at h; omega
          · exact ⟨h1, h2, by omega, h4, by omega⟩
        · rw [insE_can h1 h2 h3 h4] at h; exact absurd h h4
  · rw [insE_whole h1] at h; exact absurd h h1
theorem AllA.reverse {l : List (List Int)} (h : AllA l) : AllA l.reverse := fun s hs => h s (List.mem_reverse.1 hs)
/-- the packet by way of others is such a packet -/
def goH (xs : List Int) (l : List (List Int)) (tl : List Ob) : Hd := sizedH (((putR (viaR xs l tl)).length + (xs.length - 40) : Nat) : Int) (viaH xs l)
section
variable {xs : List Int} {l : List (List Int)} {tl : List Ob} (ha : AllB xs) (hv : AllA l) (h : insE xs l tl = 0)
include ha hv h
theorem ins_pk : Pk (goH xs l tl) (viaR xs l tl) (xs.drop 40) := by
  obtain ⟨h1, h2, h3, h4, h5⟩ := insE_zero h
  obtain ⟨g1, g2, g3, g4, g5⟩ := wholeE_zero h1
  obtain ⟨o1, o2⟩ := viaH_ok ha g2 hv
  refine ⟨sizedH_ok o1 (by unfold i64ok; omega), sizedH_can o2 (by omega) (by omega), rfl, ?_, ?_, h4⟩
  · show (((putR (viaR xs l tl)).length + (xs.length - 40) : Nat) : Int) = _
    rw [List.length_drop]; omega
  · exact (hv.append (.cons (getL_ok ha g2).d (getL_ok ha g2).vd .nil)).reverse
omit ha hv in
theorem ins_is : insL xs l tl = pkL (goH xs l tl) (viaR xs l tl) (xs.drop 40) := by
  unfold insL pkL goH
  rw [if_pos h]
theorem ins_len : (insL xs l tl).length ≤ 1500 := by
  obtain ⟨h1, h2, h3, h4, h5⟩ := insE_zero h
  have := (wholeE_zero h1).2.1
  rw [ins_is h, (ins_pk ha hv h).len, List.length_drop]
  omega
omit ha hv h in
theorem ins_last : segR (viaR xs l tl).sg 0 = (getL xs).d := by
  show segR (l ++ [(getL xs).d]).reverse 0 = _
  rw [List.reverse_append]
  have e : thereR ([(getL xs).d].reverse ++ l.reverse) 0 = true := by unfold thereR; rw [decide_eq_true_eq]; simp only [List.reverse_singleton, List.cons_append, List.length_cons]; omega
  unfold segR
  rw [if_pos e]
  rfl
end
end Go.Proofs.YtdpbhhoabnmbpaaGreat

namespace Go.Proofs.YtdpbhhoabnmbpaaGreat
open Go.RowKit
set_option linter.unusedVariables false

theorem rev_at {l : List (List Int)} {d : List Int} {i : Nat} (hi : i ≤ l.length) : segR (l ++ [d]).reverse ((l.length : Int) - (i : Nat)) = if i < l.length then l.getD i zero16 else d := by
  have hl : (l ++ [d]).reverse.length = l.length + 1 := by simp
  have ht : thereR (l ++ [d]).reverse ((l.length : Int) - (i : Nat)) = true := by unfold thereR; rw [decide_eq_true_eq, hl]; omega
  unfold segR
  rw [if_pos ht, show ((l.length : Int) - (i : Nat)).toNat = l.length - i by omega]
  rw [List.getD_eq_getElem?_getD, List.getElem?_reverse (by simp; omega), List.length_append, List.length_singleton, show l.length + 1 - 1 - (l.length - i) = i by omega]
  by_cases h : i < l.length
  · rw [if_pos h, List.getElem?_append_left h, List.getD_eq_getElem?_getD]
  · rw [if_neg h, show i = l.length by omega, List.getElem?_append_right (Nat.le_refl _), Nat.sub_self]; rfl
section
variable {xs : List Int} {l : List (List Int)} (ha : AllB xs) (hv : AllA l) (h : insE xs l [] = 0) (hop : (l.length : Int) < (getL xs).hp)
include ha hv h hop
end
end Go.Proofs.YtdpbhhoabnmbpaaGreat

namespace Go.Proofs.YtdpbhhoabnmbpaaGreat
open Go.RowKit
set_option linter.unusedVariables false

section
variable (A : Option Addr) (n c : Nat) (xs : List Int) (w : World) (hn : n ≤ 140737488351232) (hb : Bs w w.heap.size A n xs)
include hn hb
end
section
variable (A : Option Addr) (n c : Nat) (xs : List Int) (w : World) (hn : n ≤ 140737488351232) (hc : n ≤ c) (hc2 : c ≤ 9223372036854775807) (hb : Bs w w.heap.size A n xs)
include hn hc hc2 hb
end
end Go.Proofs.YtdpbhhoabnmbpaaGreat

namespace Go.Proofs.YtdpbhhoabnmbpaaGreat
open Go.RowKit
set_option linter.unusedVariables false

theorem segR_at {l : List (List Int)} {k : Nat} (h : k < l.length) : segR l (k : Nat) = l.getD k zero16 := by
  have ht : thereR l (k : Nat) = true := by unfold thereR; rw [decide_eq_true_eq]; omega
  unfold segR
  rw [if_pos ht, Int.toNat_natCast]
section
variable (A : Option Addr) (n c : Nat) (xs : List Int) (w : World) (hn : n ≤ 140737488351232) (hc : n ≤ c) (hc2 : c ≤ 9223372036854775807) (hb : Bs w w.heap.size A n xs)
include hn hc hc2 hb
end
end Go.Proofs.YtdpbhhoabnmbpaaGreat

namespace Go.Proofs.YtdpbhhoabnmbpaaGreat
open Go.RowKit
set_option linter.unusedVariables false

section
variable (A : Option Addr) (n c : Nat) (xs : List Int) (w : World) (hn : n ≤ 140737488351232) (hc : n ≤ c) (hc2 : c ≤ 9223372036854775807) (hb : Bs w w.heap.size A n xs)
include hn hc hc2 hb
end
end Go.Proofs.YtdpbhhoabnmbpaaGreat

namespace Go.Proofs.YtdpbhhoabnmbpaaGreat
open Go.RowKit
set_option linter.unusedVariables false

theorem OwnA.block {t : TypeId} {w : World} {base n c : Nat} {A : Option Addr} {l : List (List Int)} (h : OwnA t w base A n c l) : ∀ k, (Value.slice A n c).ownBlock = some k → ∃ cs z, w.heap[k]? = some (.cells cs t z) := fun k hk => by
  rcases h.1.2 with ⟨e, _⟩ | ⟨g, cap, cur, hv, hbg, hg, r⟩
  · rw [e] at hk; simp [Value.ownBlock] at hk
  · rw [hv] at hk
    simp [Value.ownBlock] at hk
    subst hk
    exact ⟨_, _, hg⟩
theorem OwnA.ofBlk {t : TypeId} {w : World} {g : Nat} {s : List Int} (h : Blk w t g s) (hs : s.length = 16) (ha : AllB s) {base : Nat} (hb : base ≤ g) : OwnA t w base (some ⟨g, 0, none⟩) 1 1 [s] :=
  ⟨⟨by simp [cellsB_length, hs], .inr ⟨g, 1, (cellsB s).toArray, rfl, hb, h, Nat.le_refl _, by simp [maxLen], by simp [cellsB_length, hs], by simp [List.take_of_length_le, cellsB_length, hs]⟩⟩, .cons hs ha .nil, rfl⟩
section
variable (A : Option Addr) (n c : Nat) (xs : List Int) (vA : Option Addr) (m vc : Nat) (l : List (List Int)) (tA : Option Addr) (tn tc : Nat) (os : List Od) (w : World)
    (hn : n ≤ 140737488351232) (hc : n ≤ c) (hc2 : c ≤ 9223372036854775807) (hb : Bs w w.heap.size A n xs) (hm : m ≤ 140737488351232) (hv : As w w.heap.size vA m l) (ht : tn ≤ 140737488351232) (hp : Os w w.heap.size tA tn os)
include hn hc hc2 hb hm hv ht hp
end
end Go.Proofs.YtdpbhhoabnmbpaaGreat
