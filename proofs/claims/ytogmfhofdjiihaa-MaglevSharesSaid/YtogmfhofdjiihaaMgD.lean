/- Stage 17: the page's table: each slot is somebody's, shares go by weight, the order of the members changes nothing. No program here; no condition. -/
import Derived.Test.YtogmfhofdjiihaaMgC
set_option maxRecDepth 100000
namespace Go.Proofs.Ytogmfhofdjiihaa
set_option linter.unusedVariables false

theorem rightM_of {l : List Mbr} (h : RightM l) : rightM l = 0 := by
  rw [rightM_last l, if_neg (by have := h.few; omega)]
  intro j hj
  have h1 := h.ok l[j] (List.getElem_mem hj)
  have hb : badM (l.getD j zeroMbr) = false := by
    rw [getD_memM l j hj]
    exact decide_eq_false (by omega)
  have ht : twiceM l j = false := by
    unfold twiceM
    rw [List.any_eq_false]
    intro y hy
    obtain ⟨i, hi, rfl⟩ := List.mem_take_iff_getElem.1 hy
    rw [getD_memM l j hj]
    have h2 := List.pairwise_iff_getElem.1 h.once i j (by simp; omega) (by simpa using hj) (by omega)
    simpa using h2
  unfold wrongM
  rw [hb, ht]
  rfl
theorem RightM.reverse {l : List Mbr} (h : RightM l) : RightM l.reverse := by
  refine ⟨fun x hx => h.ok x (List.mem_reverse.1 hx), ?_, by rw [List.length_reverse]; exact h.few⟩
  rw [List.map_reverse]
  exact (List.pairwise_reverse).2 (h.once.imp fun h e => h e.symm)
theorem sortM_reverse {l : List Mbr} (h : RightM l) : sortM l.reverse = sortM l := by
  obtain ⟨a1, a2, _⟩ := sortM_sorts h.reverse.once
  obtain ⟨b1, b2, _⟩ := sortM_sorts h.once
  exact rise_one _ _ a1 b1 fun y => by rw [a2, b2, List.mem_reverse]
theorem sum_reverseM (l : List Int) : l.reverse.sum = l.sum := by
  induction l with
  | nil => rfl
  | cons a r ih =>
    rw [List.reverse_cons, List.sum_append, ih, List.sum_cons]
    simp
    omega
theorem totalM_reverse {l : List Mbr} (h : RightM l) : totalM l.reverse = totalM l := by
  unfold totalM
  rw [rightM_of h.reverse, rightM_of h, if_pos rfl, if_pos rfl, List.map_reverse, sum_reverseM]
theorem riseM_nodup : ∀ {l : List Mbr}, RiseM l → (l.map Mbr.n).Nodup := fun {l} h => List.pairwise_map.2 (h.imp fun h => by omega)

/-- the table of members that are right -/
def tableM (a b m : Int) (l : List Mbr) : List Int := if totalM l = 0 then List.replicate m.toNat 0 else afterP (fun n => ordP a b n m) (seqM (sortM l)) m.toNat m.toNat
/-- why there is none -/
def errM (m : Int) (l : List Mbr) : Int := if m ≤ 251 ∧ primeB m = true then rightM l else 2
/-- the table, or none -/
def buildM (a b m : Int) (l : List Mbr) : List Int := if errM m l = 0 then tableM a b m l else []
theorem errM_zero {m : Int} {l : List Mbr} (h : errM m l = 0) : m ≤ 251 ∧ primeB m = true ∧ rightM l = 0 := by
  unfold errM at h
  by_cases hc : m ≤ 251 ∧ primeB m = true
  · rw [if_pos hc] at h
    exact ⟨hc.1, hc.2, h⟩
  · rw [if_neg hc] at h
    omega
theorem tableM_len (a b m : Int) (l : List Mbr) : (tableM a b m l).length = m.toNat := by
  unfold tableM
  split
  · simp
  · exact afterP_len _
theorem sum_sortM {l : List Mbr} (h : RightM l) : ((sortM l).map Mbr.w).sum = (l.map Mbr.w).sum := by
  have key : ∀ (l out : List Mbr), ((l.foldl (fun out x => insM x out) out).map Mbr.w).sum = (l.map Mbr.w).sum + (out.map Mbr.w).sum := by
    intro l
    induction l with
    | nil => intro out; simp
    | cons x r ih =>
      intro out
      have h1 : ((insM x out).map Mbr.w).sum = x.w + (out.map Mbr.w).sum := by
        have h2 := congrArg (fun k => (List.map Mbr.w k).sum) (List.takeWhile_append_dropWhile (p := fun y => decide (y.n < x.n)) (l := out))
        simp only [List.map_append, List.sum_append] at h2
        unfold insM
        rw [List.map_append, List.sum_append, List.map_cons, List.sum_cons]
        omega
      rw [List.foldl_cons, ih, h1, List.map_cons, List.sum_cons]
      omega
  exact (key l []).trans (by simp)
theorem turnsM {a b m : Int} {l : List Mbr} (hp : primeB m = true) (hm : m ≤ 1000) (h : RightM l) (ht : totalM l ≠ 0) : TurnsP (fun n => ordP a b n m) (seqM (sortM l)) m.toNat := by
  obtain ⟨h1, h2, h3⟩ := sortM_sorts h.once
  have hw : ∀ x ∈ sortM l, 0 ≤ x.w := fun x hx => (h.ok x ((h2 x).1 hx)).2.2.1
  refine ⟨?_, fun n _ => ordP_order hp hm, fun n hn => ?_⟩
  · have h4 := seqM_len hw
    rw [sum_sortM h] at h4
    unfold totalM at ht
    rw [rightM_of h, if_pos rfl] at ht
    omega
  · obtain ⟨x, hx, e⟩ := seqM_mem hn
    have h5 := (h.ok x ((h2 x).1 hx)).1
    omega
/-- how many slots a member has -/
theorem tableM_count {a b m : Int} {l : List Mbr} (hp : primeB m = true) (hm : m ≤ 1000) (h : RightM l) (ht : totalM l ≠ 0) {n : Int} (hn : n ≠ 0) :
    (tableM a b m l).count n = numP (seqM (sortM l)) n m.toNat := by
  unfold tableM
  rw [if_neg ht]
  exact (afterP_count (turnsM hp hm h ht) m.toNat (Nat.le_refl _)).2 n hn
theorem weightM {l : List Mbr} (h : RightM l) {x : Mbr} (hx : x ∈ l) : (seqM (sortM l)).count x.n = x.w.toNat := by
  obtain ⟨h1, h2, h3⟩ := sortM_sorts h.once
  exact seqM_count (riseM_nodup h1) x ((h2 x).2 hx)
/-- SHARES -/
theorem tableM_share {a b m : Int} {l : List Mbr} (hp : primeB m = true) (hm : m ≤ 1000) (h : RightM l) (ht : totalM l ≠ 0) {x y : Mbr} (hx : x ∈ l) (hy : y ∈ l) :
    ((tableM a b m l).count x.n : Int) * y.w - ((tableM a b m l).count y.n : Int) * x.w ≤ x.w * y.w := by
  have kx := h.ok x hx
  have ky := h.ok y hy
  have hT := turnsM (a := a) (b := b) hp hm h ht
  have h1 := numP_share hT.some x.n y.n m.toNat
  rw [weightM h hx, weightM h hy] at h1
  rw [tableM_count hp hm h ht (by omega), tableM_count hp hm h ht (by omega)]
  generalize numP (seqM (sortM l)) x.n m.toNat = p at *
  generalize numP (seqM (sortM l)) y.n m.toNat = q at *
  have e1 : y.w = (y.w.toNat : Int) := by omega
  have e2 : x.w = (x.w.toNat : Int) := by omega
  rw [e1, e2]
  have h2 : ((p * y.w.toNat : Nat) : Int) ≤ ((q * x.w.toNat + x.w.toNat * y.w.toNat : Nat) : Int) := by exact_mod_cast h1
  simp only [Int.natCast_add, Int.natCast_mul] at h2
  omega
theorem tableM_idle {a b m : Int} {l : List Mbr} (hp : primeB m = true) (hm : m ≤ 1000) (h : RightM l) (ht : totalM l ≠ 0) {x : Mbr} (hx : x ∈ l) (hw : x.w = 0) : (tableM a b m l).count x.n = 0 := by
  have kx := h.ok x hx
  have hT := turnsM (a := a) (b := b) hp hm h ht
  rw [tableM_count hp hm h ht (by omega)]
  exact numP_none hT.some _ (by rw [weightM h hx, hw]; rfl) _
theorem tableM_sum {a b m : Int} {l : List Mbr} (hp : primeB m = true) (hm : m ≤ 1000) (h : RightM l) (ht : totalM l ≠ 0) : (l.map fun x => (tableM a b m l).count x.n).sum = m.toNat := by
  have hT := turnsM (a := a) (b := b) hp hm h ht
  obtain ⟨h1, h2, h3⟩ := sortM_sorts h.once
  have h4 := numP_all hT.some (l.map Mbr.n) h.once (fun n hn => by
    obtain ⟨x, hx, e⟩ := seqM_mem hn
    exact List.mem_map.2 ⟨x, (h2 x).1 hx, e⟩) m.toNat
  rw [List.map_map] at h4
  rw [← h4]
  congr 1
  apply List.map_congr_left
  intro x hx
  have kx := h.ok x hx
  exact tableM_count hp hm h ht (by omega)
theorem tableM_reverse {a b m : Int} {l : List Mbr} (h : RightM l) : tableM a b m l.reverse = tableM a b m l := by
  unfold tableM
  rw [totalM_reverse h, sortM_reverse h]
theorem errM_reverse {m : Int} {l : List Mbr} (h : RightM l) : errM m l.reverse = errM m l := by
  unfold errM
  rw [rightM_of h.reverse, rightM_of h]
theorem buildM_reverse {a b m : Int} {l : List Mbr} (h : RightM l) : buildM a b m l.reverse = buildM a b m l := by
  unfold buildM
  rw [errM_reverse h, tableM_reverse h]
end Go.Proofs.Ytogmfhofdjiihaa
