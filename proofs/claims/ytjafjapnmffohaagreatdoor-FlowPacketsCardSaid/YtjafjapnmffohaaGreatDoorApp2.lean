/- append onto a slice that has no room left (or of nothing): old memory stays as it was. Condition: together at most 2^47 bytes. -/
import Derived.Test.YtjafjapnmffohaaGreatDoorApp
import Derived.Test.YtjafjapnmffohaaGreatDoorJReg
import Derived.ArgAppend
set_option maxRecDepth 100000
namespace Go.Proofs.YtjafjapnmffohaaGreatDoor
open Go.RowKit

theorem run_append_zero {P : Program} {w : World} {t ty e : TypeId} {i : TypeInfo} (ht : P.underlying t = some (.slice e)) (hi : P.info? e = some i)
    (b0 : Addr) (n c0 : Nat) (hn : n ≤ c0) (A : Option Addr) (c : Nat) : (Builtin.append_ #[t, t] ty #[.slice (some b0) n c0, .slice A 0 c]).run P w = .ok (.slice (some b0) n c0) w := by
  cases A with
  | none => simp [Builtin.append_, run_underlying ht, sizeOf, typeInfo, hi, Builtin.lenOf, Builtin.firstCells, hn, storeCells]
  | some a =>
    have hf := run_firstCells_some (P := P) w i.size 0 a 0 c [] (by simp) (fun j v hj => by simp at hj)
    simp [Builtin.append_, run_underlying ht, sizeOf, typeInfo, hi, Builtin.lenOf, hf, hn, storeCells]

theorem run_append_full {P : Program} (w : World) (t ty e : TypeId) (i : TypeInfo) (ht : P.underlying t = some (.slice e)) (hi : P.info? e = some i) (hz : i.zero = some (.int .u8 0))
    (hsize : i.size = 1) (hby : i.bytes = 1) (b0 : Nat) (o0 : Nat) (n c0 : Nat) (xs : List Int) (hx : Bs w w.heap.size (some ⟨b0, o0, none⟩) n xs) (hc0 : c0 = n)
    (A : Option Addr) (m c : Nat) (ys : List Int) (hy : Bs w w.heap.size A m ys) (hb : n + m ≤ 140737488355328) :
    ∃ A' c' w', (Builtin.append_ #[t, t] ty #[.slice (some ⟨b0, o0, none⟩) n c0, .slice A m c]).run P w = .ok (.slice A' (n + m) c') w' ∧ Bs w' w'.heap.size A' (n + m) (xs ++ ys) ∧ n + m ≤ c' ∧ c' ≤ 9223372036854775807 ∧ Low w w' := by
  subst hc0
  rcases Nat.eq_zero_or_pos m with h0 | h0
  · subst h0
    obtain rfl : ys = [] := List.eq_nil_of_length_eq_zero hy.len
    exact ⟨_, _, w, run_append_zero ht hi ⟨b0, o0, none⟩ c0 c0 (Nat.le_refl _) A c, by simpa using hx, by omega, by omega, Low.refl w⟩
  · obtain ⟨b1, o1, rfl, _, hc1⟩ := hy.mem h0
    obtain ⟨ad, e1, hsrc⟩ := hy.src (by rw [cellsB_length, hy.len]; exact h0)
    injection e1 with e1
    subst e1
    have holds : ∀ j u, (cellsB xs)[j]? = some u → w.cell? ((⟨b0, o0, none⟩ : Addr).add j) = some u := fun j u hu => by
      have hpos : 0 < (cellsB xs).length := by have := (List.getElem?_eq_some_iff.1 hu).1; omega
      obtain ⟨ad', e2, h⟩ := hx.src hpos
      injection e2 with e2
      subst e2
      exact h j u hu
    obtain ⟨v', w', hrun, r1, r2⟩ := run_append_arg_grows (P := P) w t ty e i (.int .u8 0) 1 1 ht hi hz hsize hby rfl (by omega) ⟨b0, o0, none⟩ c0 c0 (cellsB xs) (by rw [cellsB_length, hx.len]; omega) holds ⟨b1, o1, none⟩ m c (cellsB ys) (by rw [cellsB_length, hy.len]; omega) hsrc (by omega) (by simp only [maxLen]; omega) (by omega)
    rw [← cellsB_append] at r1
    have hform : ∃ A' c', v' = .slice A' (c0 + m) c' := by
      rcases r1.2 with ⟨e3, e4⟩ | ⟨g, cap, cur, e3, _⟩
      · exact ⟨none, 0, by rw [e3, e4]⟩
      · exact ⟨_, _, e3⟩
    obtain ⟨A', c', rfl⟩ := hform
    have ho : OwnB e w' w.heap.size A' (c0 + m) c' (xs ++ ys) := ⟨r1, hx.all.append hy.all⟩
    have hcap := ho.cap
    simp only [maxLen] at hcap
    exact ⟨A', c', w', hrun, ho.bs (Nat.le_refl _), hcap.1, by omega, Below.grown (Below.refl _ _) r2 (Nat.le_refl _) (fun k hk => by cases hk)⟩

/-- the same as an operation that is carried out -/
theorem wp_append_full {P : Program} {w : World} {o : Oper} {a : Act} {K : Act → World → Prop} {Q : Exit → Act → World → Prop} (s x : Operand) (t : TypeId)
    (ho : o.op = .call { callee := .builtin .append, args := #[s, x], argTypes := #[t, t] })
    (e : TypeId) (i : TypeInfo) (ht : P.underlying t = some (.slice e)) (hi : P.info? e = some i) (hz : i.zero = some (.int .u8 0)) (hsize : i.size = 1) (hby : i.bytes = 1)
    (b0 o0 n c0 : Nat) (xs : List Int) (hs : a.eval s = .slice (some ⟨b0, o0, none⟩) n c0) (hx0 : Bs w w.heap.size (some ⟨b0, o0, none⟩) n xs) (hc0 : c0 = n)
    (A : Option Addr) (m c : Nat) (ys : List Int) (hx : a.eval x = .slice A m c) (hy : Bs w w.heap.size A m ys) (hn : n + m ≤ 140737488355328)
    (h : ∀ A' c' w', Bs w' w'.heap.size A' (n + m) (xs ++ ys) → n + m ≤ c' → c' ≤ 9223372036854775807 → Low w w' → K (a.put o.dst (.slice A' (n + m) c')) w') : o.wp P a w K Q := by
  obtain ⟨A', c', w', hrun, h2, h3, h4, h5⟩ := run_append_full (P := P) w t o.type e i ht hi hz hsize hby b0 o0 n c0 xs hx0 hc0 A m c ys hy hn
  unfold Oper.wp execOp
  simp only [ho, resolve, invoke, builtin, Sem.run_bind, Sem.run_pure, Result.andThen_ok, List.map_toArray, List.map_cons, List.map_nil, hs, hx, hrun]
  exact h A' c' w' h2 h3 h4 h5
end Go.Proofs.YtjafjapnmffohaaGreatDoor
