/- Slices of ints handed back by calls, in memory of the call's own. No condition. -/
import Derived.Test.YthbboiolhejmmaaNums
import Derived.Test.YthbboiolhejmmaaJReg
import Derived.Test.YthbboiolhejmmaaVals
set_option maxRecDepth 100000
namespace Go.Proofs.Ythbboiolhejmmaa
open Go.RowKit
set_option linter.unusedVariables false

theorem info_intP : (Try.prog.info? 3).map (fun i => (i.zero, i.size, i.bytes)) = some (some (.int .i64 0), 1, 8) := by kernel_rfl
theorem info_int_partsP : ∃ i, Try.prog.info? 3 = some i ∧ i.zero = some (.int .i64 0) ∧ i.size = 1 ∧ i.bytes = 8 := by
  have h := info_intP
  cases hi : Try.prog.info? 3 with
  | none => simp [hi] at h
  | some i =>
    simp [hi] at h
    exact ⟨i, rfl, h.1, h.2.1, h.2.2⟩
theorem OwnN.noneP (t : TypeId) (w : World) (base : Nat) : OwnN t w base none 0 0 [] := ⟨⟨rfl, .inl ⟨rfl, rfl⟩⟩, AllI.nil⟩
/-- what there is lies from block lo on -/
def IFrom (lo : Nat) (A : Option Addr) (n : Nat) : Prop := 0 < n → ∃ b o, A = some ⟨b, o, none⟩ ∧ lo ≤ b
theorem IFrom.nil (lo : Nat) (A : Option Addr) : IFrom lo A 0 := fun h => absurd h (by omega)
theorem IFrom.less {lo lo' n : Nat} {A : Option Addr} (h : IFrom lo A n) (hl : lo' ≤ lo) : IFrom lo' A n := fun hn => by
  obtain ⟨b, o, e, hb⟩ := h hn
  exact ⟨b, o, e, by omega⟩
theorem OwnN.fromI {t : TypeId} {w : World} {base n c : Nat} {A : Option Addr} {ys : List Int} (h : OwnN t w base A n c ys) : IFrom base A n := fun hn => by
  obtain ⟨g, cap, hv, hb, _⟩ := World.ownsRow.form h.1 hn
  injection hv with hA
  exact ⟨g, 0, hA, hb⟩
theorem Ns.upperI {w w' : World} {B lo n : Nat} {A : Option Addr} {xs : List Int} (h : Ns w B A n xs) (hf : IFrom lo A n) (hk : ∀ p : Addr, lo ≤ p.block → p.block < B → w'.cell? p = w.cell? p) : Ns w' B A n xs :=
  ⟨h.len, h.all, fun hn => by
    obtain ⟨b, o, e, hb, hc⟩ := h.mem hn
    obtain ⟨b', o', e', hl⟩ := hf hn
    rw [e] at e'
    injection e' with e'
    injection e' with e1 e2 _
    subst e1 e2
    exact ⟨b, o, e, hb, fun i hi => (hk ⟨b, o + i, none⟩ hl hb).trans (hc i hi)⟩⟩
/-- ints handed back, in memory of the call's own -/
def GivesI (w : World) (l : List Int) (e : Ending) (w' : World) : Prop := ∃ A c, e = .returned (.slice A l.length c) ∧ l.length ≤ c ∧ Ns w' w'.heap.size A l.length l ∧ IFrom w.heap.size A l.length ∧ Low w w'
end Go.Proofs.Ythbboiolhejmmaa
