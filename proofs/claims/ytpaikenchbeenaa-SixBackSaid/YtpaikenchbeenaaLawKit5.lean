/- Arguments opened: a header. No condition. -/
import Derived.Test.YtpaikenchbeenaaLawKit2
import Derived.Test.YtpaikenchbeenaaSxA
namespace Go.Proofs.Ytpaikenchbeenaa
open Go.ChangeShapes Go.WideShapes Go.ChangeAt Go.RowKit

section
variable {H : Type} {enc : TypeId × Value → H}
theorem take_drop_cons {cs : List Value} {k : Nat} {v : Value} (h : (cs.drop k).take 1 = [v]) : cs.drop k = v :: cs.drop (k + 1) := by
  have hk : k < cs.length := by
    rcases Nat.lt_or_ge k cs.length with h1 | h1
    · exact h1
    · rw [List.drop_eq_nil_of_le h1] at h; simp at h
  rw [List.drop_eq_getElem_cons hk] at h ⊢
  simp only [List.take_succ_cons, List.take_zero, List.cons.injEq, and_true] at h
  rw [h]
theorem open_addr5 {W : World} {v : Value} {base : Nat} {d : DataW H} {p : List MemPlace} (hval : Value.okWide Try.prog W .any base 23 v) (h0 : DataW.Trod enc Try.prog W 0 (fun _ => true) true 23 v d p) :
    ∃ s : List Int, v = addrV s ∧ s.length = 16 ∧ AllB s := by
  have hc2 : Try.prog.cellsOf 23 = 16 := by kernel_rfl
  unfold Value.okWide at hval
  rw [Try.underlying23] at hval
  obtain ⟨⟨cs⟩, rfl, hs, _⟩ := hval
  rw [hc2] at hs
  obtain ⟨fuel, hf⟩ := h0
  obtain ⟨s, hl, e, ha⟩ := trod_addr (cs := cs) hs hf
  exact ⟨s, by rw [e]; rfl, hl, ha⟩
theorem open_head {W : World} {v : Value} {base : Nat} {d : DataW H} {p : List MemPlace} (hval : Value.okWide Try.prog W .any base 25 v) (h0 : DataW.Trod enc Try.prog W 0 (fun _ => true) true 25 v d p) :
    ∃ g : Hd, v = headV g ∧ g.ok := by
  have hc2 : Try.prog.cellsOf 25 = 37 := by kernel_rfl
  have hc1 : Try.prog.cellsOf 23 = 16 := by kernel_rfl
  have hci : Try.prog.cellsOf 3 = 1 := by kernel_rfl
  unfold Value.okWide at hval
  rw [Try.underlying25] at hval
  obtain ⟨⟨cs⟩, rfl, hs, _⟩ := hval
  rw [hc2] at hs
  obtain ⟨fuel, hf⟩ := h0
  obtain ⟨xs, n, _, _, hl, hlen, hq⟩ := DataW.trod_struct Try.underlying25 hf
  have hs' : cs.length = 37 := hs
  have hx : xs.length = 7 := hlen
  have q0 := hq 0 _ rfl
  have q1 := hq 1 _ rfl
  have q2 := hq 2 _ rfl
  have q3 := hq 3 _ rfl
  have q4 := hq 4 _ rfl
  have q5 := hq 5 _ rfl
  have q6 := hq 6 _ rfl
  rw [List.getElem?_eq_getElem (by omega)] at q0 q1 q2 q3 q4 q5 q6
  obtain ⟨a0, e0, -, k0⟩ := DataW.trod_int Try.underlying3 q0
  obtain ⟨a1, e1, -, k1⟩ := DataW.trod_int Try.underlying3 q1
  obtain ⟨a2, e2, -, k2⟩ := DataW.trod_int Try.underlying3 q2
  obtain ⟨a3, e3, -, k3⟩ := DataW.trod_int Try.underlying3 q3
  obtain ⟨a4, e4, -, k4⟩ := DataW.trod_int Try.underlying3 q4
  replace e0 : List.take (Try.prog.cellsOf 3) (List.drop 0 cs) = [.int .i64 a0] := e0
  replace e1 : List.take (Try.prog.cellsOf 3) (List.drop 1 cs) = [.int .i64 a1] := e1
  replace e2 : List.take (Try.prog.cellsOf 3) (List.drop 2 cs) = [.int .i64 a2] := e2
  replace e3 : List.take (Try.prog.cellsOf 3) (List.drop 3 cs) = [.int .i64 a3] := e3
  replace e4 : List.take (Try.prog.cellsOf 3) (List.drop 4 cs) = [.int .i64 a4] := e4
  rw [hci] at e0 e1 e2 e3 e4
  replace q5 : DataW.trod enc Try.prog W 0 (fun _ => true) true n 23 (List.take (Try.prog.cellsOf 23) (List.drop 5 cs)) = some xs[5] := q5
  replace q6 : DataW.trod enc Try.prog W 0 (fun _ => true) true n 23 (List.take (Try.prog.cellsOf 23) (List.drop 21 cs)) = some xs[6] := q6
  rw [hc1] at q5 q6
  obtain ⟨s, ls, es, vs⟩ := trod_addr (by simp; omega) q5
  obtain ⟨t, lt, et, vt⟩ := trod_addr (by simp; omega) q6
  refine ⟨⟨a0, a1, a2, a3, a4, s, t⟩, ?_, ⟨i64ok_wf k0, i64ok_wf k1, i64ok_wf k2, i64ok_wf k3, i64ok_wf k4, ls, lt, vs, vt⟩⟩
  have d0 := take_drop_cons e0
  have d1 := take_drop_cons e1
  have d2 := take_drop_cons e2
  have d3 := take_drop_cons e3
  have d4 := take_drop_cons e4
  have d5 : List.drop 5 cs = cellsB s ++ cellsB t := by
    rw [← es, ← et]
    show List.drop 5 cs = List.take 16 (List.drop 5 cs) ++ List.take 16 (List.drop 21 cs)
    rw [List.take_of_length_le (l := List.drop 21 cs) (by simp; omega)]
    have := List.take_append_drop 16 (List.drop 5 cs)
    rw [List.drop_drop] at this
    exact this.symm
  have hcs : cs = headC ⟨a0, a1, a2, a3, a4, s, t⟩ := by
    show cs = .int .i64 a0 :: .int .i64 a1 :: .int .i64 a2 :: .int .i64 a3 :: .int .i64 a4 :: (cellsB s ++ cellsB t)
    have d0' : cs = .int .i64 a0 :: List.drop 1 cs := d0
    rw [d0']
    congr 1
    refine Eq.trans d1 ?_
    congr 1
    refine Eq.trans d2 ?_
    congr 1
    refine Eq.trans d3 ?_
    congr 1
    refine Eq.trans d4 ?_
    congr 1
  rw [hcs]; rfl
end
end Go.Proofs.Ytpaikenchbeenaa
