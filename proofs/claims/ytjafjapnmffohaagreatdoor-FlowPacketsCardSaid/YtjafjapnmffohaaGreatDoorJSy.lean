/- Texts joined.
  What six.changed, Nearer, To and Sized tell of any bytes. Condition: at most 2^47 bytes.
  What six.Nearer, To and Sized tell of any bytes. Condition: at most 2^47 bytes.
  What six.Nearer, To and Sized tell of any bytes, whole. Condition: at most 2^47 bytes.
  What the document's own With, Nearer, To and Sized tell of any bytes. Condition: at most 2^47 bytes.
  What the document's own Nearer, To and Sized tell of any bytes, whole: as six does. Condition: at most 2^47 bytes.
-/
import Derived.Test.YtjafjapnmffohaaGreatDoorJSx
set_option maxRecDepth 100000
namespace Go.Proofs.YtjafjapnmffohaaGreatDoor
open Go.RowKit
set_option linter.unusedVariables false

/-- bytes and a number handed back -/
def GivesR (w : World) (n : Nat) (ys : List Int) (er : Int) (e : Ending) (w' : World) : Prop :=
  ∃ A c, e = .returned (.tuple #[.slice A n c, .int .i64 er]) ∧ n ≤ c ∧ c ≤ 9223372036854775807 ∧ Bs w' w'.heap.size A n ys ∧ Below w.heap.size w w'

/-- the same, and the bytes are a row of the call's own -/
def GivesRO (w : World) (n : Nat) (ys : List Int) (er : Int) (e : Ending) (w' : World) : Prop :=
  ∃ A c, e = .returned (.tuple #[.slice A n c, .int .i64 er]) ∧ OwnB 5 w' w.heap.size A n c ys ∧ Below w.heap.size w w'
theorem GivesRO.r {w : World} {n : Nat} {ys : List Int} {er : Int} {e : Ending} {w' : World} (h : GivesRO w n ys er e w') : GivesR w n ys er e w' := by
  obtain ⟨A, c, he, ho, hB⟩ := h
  have hcap := ho.cap
  exact ⟨A, c, he, hcap.1, by have := hcap.2; simp only [maxLen] at this; omega, ho.bs (Nat.le_refl _), hB⟩

theorem Bs.cut40 {w : World} {B n : Nat} {A : Option Addr} {xs : List Int} (c : Nat) (h : Bs w B A n xs) (h40 : 40 ≤ n) : ∀ A', (¬ n = 40 → ∀ b o, A = some ⟨b, o, none⟩ → A' = some ⟨b, o + 40, none⟩) → Bs w B A' (n - 40) (xs.drop 40) := fun A' hA =>
  ⟨by rw [List.length_drop, h.len], h.all.drop 40, fun hp => by
    obtain ⟨b, o, e, hb, hc⟩ := h.mem (by omega)
    refine ⟨b, o + 40, hA (by omega) b o e, hb, fun i hi => ?_⟩
    rw [Nat.add_assoc, hc (40 + i) (by omega)]
    simp [List.getD]⟩
section
variable (k : Nat) (cap : Array Value) (A : Option Addr) (n c : Nat) (xs : List Int) (w : World) (hn : n ≤ 140737488355328) (hc : n ≤ c) (hc2 : c ≤ 9223372036854775807) (hb : Bs w w.heap.size A n xs)
include hn hc hc2 hb
end
end Go.Proofs.YtjafjapnmffohaaGreatDoor

namespace Go.Proofs.YtjafjapnmffohaaGreatDoor
open Go.RowKit
set_option linter.unusedVariables false

/-- one hop less; for somebody else; as long as it is -/
def nearH (h : Hd) : Hd := { h with hp := h.hp - 1 }
def toH (d : List Int) (h : Hd) : Hd := { h with d := d }
def sizedH (m : Int) (h : Hd) : Hd := { h with ln := m }
theorem toH_ok {d : List Int} {h : Hd} (hk : h.ok) (hd : d.length = 16) (vd : AllB d) : (toH d h).ok := ⟨hk.cl, hk.lb, hk.ln, hk.nx, hk.hp, hk.s, hd, hk.vs, vd⟩
theorem sizedH_ok {m : Int} {h : Hd} (hk : h.ok) (hm : i64ok m) : (sizedH m h).ok := ⟨hk.cl, hk.lb, hm, hk.nx, hk.hp, hk.s, hk.d, hk.vs, hk.vd⟩
theorem nearH_ok {h : Hd} (hk : h.ok) (hm : 1 < h.hp) : (nearH h).ok := ⟨hk.cl, hk.lb, hk.ln, hk.nx, by have := hk.hp; unfold i64ok nearH at *; dsimp only; omega, hk.s, hk.d, hk.vs, hk.vd⟩

def setCs (vs : List Value) (o : Nat) : List Value → List Value
  | [] => vs
  | u :: r => setCs (vs.set o u) (o + 1) r
theorem BlkV.setMid {t : TypeId} {g : Nat} : ∀ (us : List Value) (o : Nat) (w : World) (vs : List Value), BlkV w t g vs → BlkV (w.setCells g o us) t g (setCs vs o us)
  | [], _, _, _, h => h
  | u :: r, o, w, vs, h => BlkV.setMid r (o + 1) _ _ (h.set_ o u)
theorem BlkV.farMid {t : TypeId} {g g' : Nat} (hg : g' ≠ g) : ∀ (us : List Value) (o : Nat) (w : World) (vs : List Value), BlkV w t g' vs → BlkV (w.setCells g o us) t g' vs
  | [], _, _, _, h => h
  | u :: r, o, w, vs, h => BlkV.farMid hg r (o + 1) _ _ (h.far (p := ⟨g, o, none⟩) hg u)
theorem low_setMid {B g : Nat} (hg : B ≤ g) : ∀ (us : List Value) (o : Nat) (w w0 : World), Below B w0 w → Below B w0 (w.setCells g o us)
  | [], _, _, _, h => h
  | u :: r, o, w, w0, h => low_setMid hg r (o + 1) _ _ (h.setCell (p := ⟨g, o, none⟩) hg u)
theorem setCs_dst (h : Hd) (d : List Int) (hs : h.s.length = 16) (hd : h.d.length = 16) (hn : d.length = 16) : setCs (headC h) 21 (cellsB d) = headC (toH d h) := by
  obtain ⟨a, b, c, dd, e, s, t⟩ := h
  obtain ⟨s0, s1, s2, s3, s4, s5, s6, s7, s8, s9, s10, s11, s12, s13, s14, s15, rfl⟩ := list16 s hs
  obtain ⟨d0, d1, d2, d3, d4, d5, d6, d7, d8, d9, d10, d11, d12, d13, d14, d15, rfl⟩ := list16 t hd
  obtain ⟨e0, e1, e2, e3, e4, e5, e6, e7, e8, e9, e10, e11, e12, e13, e14, e15, rfl⟩ := list16 d hn
  kernel_rfl
theorem BlkV.there {w : World} {t : TypeId} {g : Nat} {vs : List Value} (h : BlkV w t g vs) (o n : Nat) (hn : o + n ≤ vs.length) : w.there g o n := fun j hj =>
  ⟨by rw [h.cell, List.getElem?_eq_getElem (by omega)]; rfl, h.frozen _⟩
/-- an address is stored in a header -/
theorem wpList_store_dst {ops : Array Oper} {rest : List Oper} {o : Oper} {a : Act} {w : World} {Q : Exit → Act → World → Prop} (hgd : o.guard = none) (x y : Operand) (ho : o.op = .store 24 x y) (g : Nat) (hx : a.eval x = .pointer (some ⟨g, 21, none⟩)) (d : List Int) (hy : a.eval y = .agg (cellsB d).toArray)
    (h : Hd) (hb : BlkH w g h) (hs : h.s.length = 16) (hd : h.d.length = 16) (hn : d.length = 16)
    (hk : BlkH (w.setCells g 21 (cellsB d)) g (toH d h) → wpList Tryz.prog ops Q rest (a.put o.dst undef) (w.setCells g 21 (cellsB d))) : wpList Tryz.prog ops Q (o :: rest) a w :=
  wpList_store_mid hgd 24 x y ho g 21 (cellsB d).toArray hx hy (hb.there 21 _ (by simp [headC_length hs hd, cellsB_length, hn])) (by rw [addr_size]; simp [cellsB_length, hn])
    (all_oneCell_toArray (cellsB_one d)) (by
      have h2 := BlkV.setMid (cellsB d) 21 w _ hb
      rw [setCs_dst h d hs hd hn] at h2
      exact hk h2)

section
variable (h : Hd) (gb : Nat) (A : Option Addr) (n c : Nat) (t : TypeId) (w : World) (hk : h.ok) (hn : n ≤ 140737488355328) (hb : BlkV w t gb [.slice A n c])
include hk hn hb
end
end Go.Proofs.YtjafjapnmffohaaGreatDoor

namespace Go.Proofs.YtjafjapnmffohaaGreatDoor
open Go.RowKit
set_option linter.unusedVariables false

def outE (xs : List Int) (e2 : Int) : Int := if getE xs = 0 then e2 else getE xs
def outL (xs : List Int) (h2 : Hd) (e2 : Int) : List Int := if outE xs e2 = 0 then putL h2 ++ xs.drop 40 else []
def neE (xs : List Int) : Int := if (getL xs).hp ≤ 1 then 13 else 0
def neH (xs : List Int) : Hd := if (getL xs).hp ≤ 1 then getL xs else nearH (getL xs)
def szE (xs : List Int) : Int := if 65535 < (xs.length : Int) - 40 then 4 else 0
def szH (xs : List Int) : Hd := if 65535 < (xs.length : Int) - 40 then getL xs else sizedH ((xs.length : Int) - 40) (getL xs)
theorem getE_zero {xs : List Int} (h : getE xs = 0) : 40 ≤ xs.length ∧ xs.getD 0 0 / 16 = 6 ∧ getH xs = getL xs := by
  rcases getE_cases xs with ⟨h1, e1, e2⟩ | ⟨h1, h2, e1, e2⟩ | ⟨h1, h2, e1, e2⟩
  · omega
  · exact ⟨h1, h2, e2⟩
  · omega

section
variable (k : Nat) (cap : Array Value) (A : Option Addr) (n c : Nat) (xs : List Int) (w : World) (hn : n ≤ 140737488355328) (hc : n ≤ c) (hc2 : c ≤ 9223372036854775807) (hb : Bs w w.heap.size A n xs)
include hn hc hc2 hb
end
end Go.Proofs.YtjafjapnmffohaaGreatDoor

namespace Go.Proofs.YtjafjapnmffohaaGreatDoor
open Go.RowKit
set_option linter.unusedVariables false

section
variable (A : Option Addr) (n c : Nat) (xs : List Int) (w : World) (hn : n ≤ 140737488355328) (hb : Bs w w.heap.size A n xs) (h : Hd) (hh : getH xs = h)
include hn hb hh
end
end Go.Proofs.YtjafjapnmffohaaGreatDoor

namespace Go.Proofs.YtjafjapnmffohaaGreatDoor
open Go.RowKit
set_option linter.unusedVariables false

theorem out_err {xs : List Int} {h2 : Hd} {e2 : Int} (he : ¬ getE xs = 0) : outE xs e2 = getE xs ∧ outL xs h2 e2 = [] := by
  have e1 : outE xs e2 = getE xs := by unfold outE; rw [if_neg he]
  exact ⟨e1, by unfold outL; rw [if_neg (by rw [e1]; exact he)]⟩
theorem out_how {xs : List Int} {h2 : Hd} {e2 : Int} (he : getE xs = 0) (h0 : ¬ e2 = 0) : outE xs e2 = e2 ∧ outL xs h2 e2 = [] := by
  have e1 : outE xs e2 = e2 := by unfold outE; rw [if_pos he]
  exact ⟨e1, by unfold outL; rw [if_neg (by rw [e1]; exact h0)]⟩
theorem out_ok {xs : List Int} {h2 : Hd} {n : Nat} (he : getE xs = 0) (hl : xs.length = n) : outE xs 0 = 0 ∧ outL xs h2 0 = putL h2 ++ xs.drop 40 ∧ (putL h2 ++ xs.drop 40).length = (putL h2).length + (n - 40) := by
  have e1 : outE xs 0 = 0 := by unfold outE; rw [if_pos he]
  exact ⟨e1, by unfold outL; rw [if_pos e1], by rw [List.length_append, List.length_drop, hl]⟩

section
variable (A : Option Addr) (n c : Nat) (xs : List Int) (w : World) (hn : n ≤ 140737488355328) (hc : n ≤ c) (hc2 : c ≤ 9223372036854775807) (hb : Bs w w.heap.size A n xs)
include hn hc hc2 hb
end

theorem Bs.take {w : World} {B n : Nat} {A : Option Addr} {xs : List Int} (h : Bs w B A n xs) (k : Nat) (hk : k ≤ n) : Bs w B A k (xs.take k) :=
  ⟨by rw [List.length_take, h.len]; omega, h.all.take k, fun hp => by
    obtain ⟨b, o, e, hb, hc⟩ := h.mem (by omega)
    refine ⟨b, o, e, hb, fun i hi => ?_⟩
    rw [hc i (by omega)]
    simp [List.getD, hi]⟩
/-- the examples' headers -/
def exH : Hd := ⟨1, 2, 0, 0, 1, zero16, zero16⟩
def exH2 : Hd := ⟨0, 0, 0, 0, 256, zero16, zero16⟩
theorem exH_ok : exH.ok := ⟨by unfold i64ok; decide, by unfold i64ok; decide, by unfold i64ok; decide, by unfold i64ok; decide, by unfold i64ok; decide, rfl, rfl, zero_all, zero_all⟩
theorem exH2_ok : exH2.ok := ⟨by unfold i64ok; decide, by unfold i64ok; decide, by unfold i64ok; decide, by unfold i64ok; decide, by unfold i64ok; decide, rfl, rfl, zero_all, zero_all⟩
theorem ex_put : putL exH = headL exH := by decide +kernel
theorem ex_near : outE (headL exH) (neE (headL exH)) = 13 := by decide +kernel
theorem ex_can : canE exH2 = 2 := by decide +kernel
theorem ex_getE : getE ((headL exH).take 39) = 3 := by decide +kernel
theorem ex_getH : getH ((headL exH).take 39) = zeroH := by unfold getH; rw [ex_getE]; rfl

end Go.Proofs.YtjafjapnmffohaaGreatDoor
