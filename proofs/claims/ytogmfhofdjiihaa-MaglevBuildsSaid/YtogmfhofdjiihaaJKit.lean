/- Texts joined.
  From a law's walk to its statement: a call that answers true and leaves old memory alone meets the specification of a law. No condition.
  Arguments opened: arrays of integers. No condition.
-/
import Derived.Test.YtogmfhofdjiihaaRows
import Derived.Test.YtogmfhofdjiihaaBytes
import Derived.ProofKit
import Derived.OpenShut
import Derived.JoinedCond
import Derived.SizedLaws
import Derived.Deep.CondSized
import Derived.Test.YtogmfhofdjiihaaJOct
import Derived.ChangeSame
set_option maxRecDepth 100000
namespace Go.Proofs.Ytogmfhofdjiihaa
open Go.ChangeShapes Go.WideShapes Go.ChangeAt Go.RowKit

theorem own : ownKnob Try.prog.godebug = none := by kernel_rfl
theorem laidOut : laidOutB Try.prog = true := by kernel_rfl

section
variable {H : Type} {enc : TypeId × Value → H}

theorem trodAll_stays {P : Program} (hl : laidOutB P = true) {W W' : World} {sp : Nat → Bool} (ts : List TypeId) : ∀ {vs : List Value} {ds : List (DataW H)} {ps : List MemPlace},
    (∀ t ∈ ts, P.readableRec t = true ∧ t < P.types.size) →
    DataW.TrodAll enc P W 0 (fun _ => true) true ts vs ds ps → (∀ p ∈ ps, W.sameAt W' p) → (∀ p ∈ ps, sp p.block = true) → DataW.TrodAll enc P W' 0 sp true ts vs ds ps := by
  induction ts with
  | nil =>
    intro vs ds ps _ h _ _
    obtain ⟨rfl, rfl, rfl⟩ := trodAll_nil h
    exact trodAll_mk0
  | cons t ts ih =>
    intro vs ds ps hr h hs hp
    obtain ⟨v, vs', d, ds', p, q, rfl, rfl, rfl, h0, h1⟩ := trodAll_cons h
    exact trodAll_cons_mk (WideElems.Trod_stays hl (hr t (by simp)).1 (hr t (by simp)).2 h0 (fun x hx => hs x (List.mem_append_left _ hx)) (fun x hx => hp x (List.mem_append_left _ hx)))
      (ih (fun u hu => hr u (List.mem_cons_of_mem _ hu)) h1 (fun x hx => hs x (List.mem_append_right _ hx)) (fun x hx => hp x (List.mem_append_right _ hx)))

/-- a call that answers true, what was there staying as it was, meets a law's specification -/
theorem law_post {f : Func} {s : ChangeSpec} {apart : Bool} {W W' : World} {args : Array Value} {ds gs : List (DataW H)} {before : List MemPlace}
    (hpar : (f.params.toList.all fun t => Try.prog.readableRec t && decide (t < Try.prog.types.size)) = true) (hrt : f.resultTypes = #[4]) (hsv : s.vars = [])
    (hW : DataW.Whole enc Try.prog f.params.toList s.vars apart W args.toList ds gs before)
    (hfn : s.fn H (ds ++ gs) = { results := [.lit (.bool true)], args := ds }) (hb : Below W.heap.size W W') :
    s.post enc Try.prog f apart true false false W args (.bool true) W' := by
  have hlt : ∀ p ∈ before, p.block < W.heap.size := fun p hp => hW.lt p hp
  have hW' := hW
  obtain ⟨p, q, hA, hV, hps, _, _⟩ := hW'
  rw [hsv] at hV
  have hq : gs = [] ∧ q = [] := by
    cases gs with
    | nil => exact ⟨rfl, hV⟩
    | cons _ _ => exact hV.elim
  obtain ⟨rfl, rfl⟩ := hq
  rw [List.append_nil] at hps
  subst hps
  refine ⟨ds, [], before, [], before, [], hW, ?_, ?_, ?_, World.keptBut_mono (fun x hx => ⟨hx, .inr (.inl hx)⟩) (hb.frame (· ∈ before)), fun h => by cases h⟩
  · rw [hfn, hrt]
    exact trodAll_cons_mk (p := []) (shut_bool Try.underlying4 true) trodAll_mk0
  · rw [hfn]
    refine trodAll_stays laidOut _ (fun t ht => ?_) hA (fun x hx => hb.same (hlt x hx)) (fun x hx => by simpa using hlt x hx)
    have h := List.all_eq_true.1 hpar t ht
    rw [Bool.and_eq_true, decide_eq_true_eq] at h
    exact h
  · rw [hfn, hsv]
    exact rfl

theorem bulk_one (d : DataW H) : 1 ≤ Rows.uptoBulk d := by
  cases d with
  | lit l => cases l <;> simp [Rows.uptoBulk]
  | _ => simp [Rows.uptoBulk]
theorem bulk_length (l : List (DataW H)) : l.length ≤ Rows.uptoBulkAll l := by
  induction l with
  | nil => simp [Rows.uptoBulkAll]
  | cons x r ih => have := bulk_one x; simp only [Rows.uptoBulkAll, List.length_cons]; omega
theorem slice_bulk (a b : List (DataW H)) : a.length + b.length ≤ Rows.uptoBulk (.slice a b) := by
  have h1 := bulk_length a
  have h2 := bulk_length b
  simp only [Rows.uptoBulk]
  omega
theorem bulk_mem {d : DataW H} {l : List (DataW H)} (h : d ∈ l) : Rows.uptoBulk d ≤ Rows.uptoBulkAll l := by
  induction l with
  | nil => cases h
  | cons x r ih =>
    simp only [Rows.uptoBulkAll]
    rcases List.mem_cons.1 h with rfl | e
    · omega
    · have := ih e; omega
theorem small_bulk {l : List (DataW H)} (h : Rows.uptoSmall H l = true) : Rows.uptoBulkAll l ≤ 1048576 := of_decide_eq_true h

/-- a slice of bytes, opened: nil or not -/
theorem open_bytes {W : World} {v : Value} {base : Nat} {d : DataW H} {p : List MemPlace} (hval : Value.okWide Try.prog W .any base 80 v) (h0 : DataW.Trod enc Try.prog W 0 (fun _ => true) true 80 v d p) :
    ∃ (A : Option Addr) (n c : Nat) (xs : List Int), v = .slice A n c ∧ n ≤ c ∧ c ≤ 9223372036854775807 ∧ c ≤ Rows.uptoBulk d ∧ ((∀ x ∈ d.weights Try.prog 80, x ≤ reachBytes) → c ≤ 140737488351232) ∧ Bs W W.heap.size A n xs := by
  have hc1 : Try.prog.cellsOf 5 = 1 := by kernel_rfl
  have hb1 : Try.prog.bytesOf 5 = 1 := by kernel_rfl
  obtain ⟨A, n, c, rfl⟩ : ∃ A n c, v = .slice A n c := by
    cases v <;> simp [Value.okWide, Cell.okWide, Cell.ok, Try.underlying80] at hval
    exact ⟨_, _, _, rfl⟩
  obtain ⟨fuel, hf⟩ := h0
  refine ⟨A, n, c, ?_⟩
  rcases open_ints Try.underlying80 Try.underlying5 hc1 hf with ⟨hcs, hx⟩ | ⟨a, len', cap', zs, hcs, _, hl, hm, hz, hx, hcell, hwz⟩
  · simp [Value.cells] at hcs
    obtain ⟨rfl, rfl, rfl⟩ := hcs
    exact ⟨[], rfl, Nat.le_refl _, by omega, Nat.zero_le _, fun _ => Nat.zero_le _, Bs.nil _ _ _⟩
  · simp [Value.cells] at hcs
    obtain ⟨rfl, rfl, rfl⟩ := hcs
    simp only [if_true] at hz
    have hm' : c ≤ 9223372036854775807 := by simpa [maxLen] using hm
    obtain ⟨rfl, rfl⟩ := Prod.mk.injEq .. ▸ hx
    have hlen : (lits (H := H) .u8 (zs.take n)).length + (lits (H := H) .u8 (zs.drop n)).length = c := by simp [lits, hz]; omega
    have hbulk : c ≤ Rows.uptoBulk (.slice (lits (H := H) .u8 (zs.take n)) (lits .u8 (zs.drop n))) := by have := slice_bulk (lits (H := H) .u8 (zs.take n)) (lits .u8 (zs.drop n)); omega
    have hwt : (∀ x ∈ (DataW.slice (lits (H := H) .u8 (zs.take n)) (lits .u8 (zs.drop n))).weights Try.prog 80, x ≤ reachBytes) → c ≤ 140737488351232 := by
      intro h
      have := h (((lits (H := H) .u8 (zs.take n)).length + (lits (H := H) .u8 (zs.drop n)).length) * Try.prog.bytesOf 5) (by simp only [DataW.weights, Try.underlying80]; exact List.mem_cons_self)
      rw [hlen, hb1, Nat.mul_one] at this
      exact this
    refine ⟨zs.take n, rfl, hl, hm', hbulk, hwt, by simp; omega, fun x hx => ?_, fun hn => ?_⟩
    · have := hwz x (List.mem_of_mem_take hx)
      simp [Lit.wf, IntKind.min, IntKind.max, IntKind.signed, IntKind.bits] at this
      omega
    · have h0 := hcell 0 (by omega)
      obtain ⟨b, o, s⟩ := a
      obtain rfl : s = none := by simpa [Addr.add] using World.cell?_spot h0
      refine ⟨b, o, rfl, World.block_lt_of_cell? _ _ (by simpa [Addr.add] using h0), fun i hi => ?_⟩
      have := hcell i (by omega)
      rw [Addr.add_lit] at this
      rw [this]
      simp [List.getD, hi]
end
end Go.Proofs.Ytogmfhofdjiihaa

namespace Go.Proofs.Ytogmfhofdjiihaa
open Go.ChangeShapes Go.WideShapes Go.ChangeAt Go.RowKit

section
variable {H : Type} {enc : TypeId × Value → H}

/-- a row of integers -/
theorem trod_ints {P : Program} {w : World} {base : Nat} {spare : Nat → Bool} {held : Bool} {fuel : Nat} {t e : TypeId} {cs : List Value} {x : DataW H × List MemPlace} {n : Nat} {k : IntKind}
    (ht : P.underlying t = some (.array n e)) (he : P.underlying e = some (.int k)) (h1 : P.cellsOf e = 1) (hl : cs.length = n) (h : DataW.trod enc P w base spare held fuel t cs = some x) :
    ∃ xs : List Int, xs.length = n ∧ cs = xs.map (Value.int k) ∧ ∀ y ∈ xs, (Lit.int k y).wf = true := by
  obtain ⟨zs, m, -, -, -, hz, hf⟩ := DataW.trod_array ht h
  have hc : ∀ i (hi : i < cs.length), ∃ y : Int, cs[i] = .int k y ∧ (Lit.int k y).wf = true := fun i hi => by
    have h2 := hf i (by omega)
    rw [h1, Nat.mul_one, List.getElem?_eq_getElem (by omega)] at h2
    obtain ⟨y, ey, _, wy⟩ := DataW.trod_int he h2
    refine ⟨y, ?_, wy⟩
    rw [List.drop_eq_getElem_cons hi, List.take_succ_cons, List.take_zero] at ey
    injection ey
  have hx : ∃ xs : List Int, cs = xs.map (Value.int k) ∧ ∀ y ∈ xs, (Lit.int k y).wf = true := by
    clear h hf hl
    induction cs with
    | nil => exact ⟨[], rfl, fun y hy => by cases hy⟩
    | cons c r ih =>
      obtain ⟨y, ey, wy⟩ := hc 0 (by simp)
      obtain ⟨xs, ex, wx⟩ := ih (fun i hi => by have := hc (i + 1) (by simp; omega); simpa using this)
      refine ⟨y :: xs, by simp at ey; simp [ex, ey], fun z hzz => ?_⟩
      rcases List.mem_cons.1 hzz with rfl | hzz
      · exact wy
      · exact wx z hzz
  obtain ⟨xs, ex, wx⟩ := hx
  exact ⟨xs, by rw [ex] at hl; simpa using hl, ex, wx⟩

theorem i64ok_wf {a : Int} (h : (Lit.int .i64 a).wf = true) : i64ok a := by
  simp [Lit.wf, IntKind.min, IntKind.max, IntKind.signed, IntKind.bits] at h
  unfold i64ok; omega
theorem byte_wf {a : Int} (h : (Lit.int .u8 a).wf = true) : 0 ≤ a ∧ a < 256 := by
  simp [Lit.wf, IntKind.min, IntKind.max, IntKind.signed, IntKind.bits] at h
  omega

end
end Go.Proofs.Ytogmfhofdjiihaa
