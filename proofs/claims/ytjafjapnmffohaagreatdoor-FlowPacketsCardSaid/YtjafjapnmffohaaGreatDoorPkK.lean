/- What the laws' own small test of packets answers: true, where the program's own functions tell what the page says. Conditions: these. -/
import Derived.Test.YtjafjapnmffohaaGreatDoorPkJ
import Derived.Test.YtjafjapnmffohaaGreatDoorPkH
import Derived.Test.YtjafjapnmffohaaGreatDoorPkF
set_option maxRecDepth 100000
namespace Go.Proofs.YtjafjapnmffohaaGreatDoor
open Go.RowKit
set_option linter.unusedVariables false

/-- what the program's own functions are to tell -/
def PktParses : Prop := ∀ (A : Option Addr) (n c : Nat) (xs : List Int) (w : World), n ≤ 140737488351232 → n ≤ c → c ≤ 9223372036854775807 → Bs w w.heap.size A n xs →
  Calls Tryz.prog 4 #[.slice A n c] w (GivesPk w xs)
def exQA (k : Int) : List Int := [0, 0, 0, 0, 0, 0, 0, 0, 0, 0, 0, 0, 0, 0, 0, k]
def exQT : Sg := ⟨1, 2, 0, 0, 0, 0, 0, 0, none, 0, 0, [], none, 0, 0, []⟩
theorem exQA_all (k : Int) (h : 0 ≤ k ∧ k < 256) : AllB (exQA k) := by
  intro b hb
  simp only [exQA, List.mem_cons, List.not_mem_nil, or_false] at hb
  omega
theorem exQT_ok (w : World) (B : Nat) : exQT.ok w B :=
  ⟨by simp [exQT, i64ok], by simp [exQT, i64ok], by simp [exQT], by simp [exQT], by simp [exQT, i64ok], by simp [exQT, i64ok], by simp [exQT, i64ok], by simp [exQT, i64ok], by simp [exQT], Os.nil _ _ _, by simp [exQT], Bs.nil _ _ _⟩
theorem exQT_e : tcpE (exQA 1) (exQA 2) exQT.v = 0 := by decide +kernel
theorem exQT_len : (tcpL (exQA 1) (exQA 2) exQT.v).length = 60 := by decide +kernel
theorem exQT_back : pkE (tcpL (exQA 1) (exQA 2) exQT.v) = 0 ∧ (pkB (tcpL (exQA 1) (exQA 2) exQT.v)).k = 6 ∧ (pkB (tcpL (exQA 1) (exQA 2) exQT.v)).f = exQA 2 := by
  obtain ⟨-, h2, h3, -⟩ := tcp_back (s := exQA 1) (d := exQA 2) rfl rfl (exQA_all 1 (by omega)) (exQA_all 2 (by omega)) (x := exQT.v) (fun b hb => by cases hb) (fun o ho => by cases ho) (by simp [exQT, Sg.v]) (by simp [exQT, Sg.v]) exQT_e
  exact ⟨h2, by rw [h3], by rw [h3]⟩
theorem pkE_short {xs : List Int} (h : xs.length < 40) : pkE xs = 3 := by
  refine pk_none ?_ (by omega)
  unfold preE
  rcases getE_cases xs with ⟨g1, e1, e2⟩ | ⟨g1, g2, e1, e2⟩ | ⟨g1, g2, e1, e2⟩
  · rw [if_neg (by omega), if_neg (by rw [e1]; omega)]
    exact e1
  · omega
  · omega
theorem GivesPk.lens {w w' : World} {xs : List Int} {e : Ending} (h : GivesPk w xs e w') : ∃ q : Pq, e = .returned (.tuple #[pqV q, .int .i64 (pkE xs)]) ∧ q.v = pkB xs ∧ q.ok w' w'.heap.size ∧ Below w.heap.size w w' ∧ q.h.s.length = 16 ∧ q.h.d.length = 16 ∧ q.f.length = 16 := by
  obtain ⟨q, h1, h2, h3, h4⟩ := h
  exact ⟨q, h1, h2, h3, h4, h3.h.s, h3.h.d, h3.fl⟩

end Go.Proofs.YtjafjapnmffohaaGreatDoor
