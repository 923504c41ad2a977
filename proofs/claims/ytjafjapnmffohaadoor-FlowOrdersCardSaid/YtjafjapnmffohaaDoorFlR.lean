/- What the document's own Sort of flows tells: the flows in order, each once. Conditions: at most 60 flows. -/
import Derived.Test.YtjafjapnmffohaaDoorFlN
import Derived.Deep.MidRow
import Derived.Deep.CutRange
set_option maxRecDepth 100000
namespace Go.Proofs.YtjafjapnmffohaaDoor
open Go.RowKit
set_option linter.unusedVariables false

/-- does it come behind the last of those that were taken? -/
def lateB (out : List Fw) (x : Fw) : Bool := if out.length = 0 then true else lessF (out.getD (out.length - 1) zeroF) x
structure InvS (l out : List Fw) : Prop where
  ord : Ordered out
  mem : ∀ x ∈ out, x ∈ l
  all : ∀ x ∈ l, x ∈ out ∨ lateB out x = true
theorem InvS.nil (l : List Fw) : InvS l [] := ⟨List.Pairwise.nil, fun x h => absurd h (by simp), fun x _ => Or.inr rfl⟩
theorem last_app (out : List Fw) (x : Fw) : (out ++ [x]).getD ((out ++ [x]).length - 1) zeroF = x := by simp [List.getD]
theorem lateB_app (out : List Fw) (x z : Fw) : lateB (out ++ [x]) z = lessF x z := by
  unfold lateB
  rw [if_neg (by simp), last_app]
theorem lateB_all {out : List Fw} (ho : Ordered out) {x : Fw} (h : lateB out x = true) : ∀ y ∈ out, lessF y x = true := fun y hy => by
  obtain ⟨i, hi, rfl⟩ := List.getElem_of_mem hy
  unfold lateB at h
  rw [if_neg (by omega)] at h
  have e : out.getD (out.length - 1) zeroF = out[out.length - 1] := by simp [List.getD, show out.length - 1 < out.length by omega]
  rw [e] at h
  by_cases h1 : i = out.length - 1
  · subst h1
    exact h
  · unfold Ordered at ho
    rw [List.pairwise_iff_getElem] at ho
    exact lessF_trans (ho i (out.length - 1) hi (by omega) (by omega)) h
theorem InvS.step {l out : List Fw} (h : InvS l out) (hl : ∀ x ∈ l, x.ok) {x : Fw} (hx : x ∈ l) (hlt : lateB out x = true) (hmin : ∀ z ∈ l, lateB out z = true → lessF z x = false) : InvS l (out ++ [x]) := by
  refine ⟨?_, fun y hy => ?_, fun z hz => ?_⟩
  · unfold Ordered
    rw [List.pairwise_append]
    refine ⟨h.ord, by simp, fun y hy x' hx' => ?_⟩
    obtain rfl : x' = x := by simpa using hx'
    exact lateB_all h.ord hlt y hy
  · rcases List.mem_append.1 hy with h1 | h1
    · exact h.mem y h1
    · obtain rfl : y = x := by simpa using h1
      exact hx
  · rw [lateB_app]
    rcases h.all z hz with h1 | h1
    · exact .inl (List.mem_append_left _ h1)
    · by_cases e : z = x
      · exact .inl (by rw [e]; simp)
      · rcases lessF_tri (hl z hz) (hl x hx) e with ⟨k, _⟩ | ⟨_, k⟩
        · rw [hmin z hz h1] at k
          exact absurd k (by decide)
        · exact .inr k
theorem InvS.end_ {l out : List Fw} (h : InvS l out) (hn : ∀ x ∈ l, lateB out x = false) : SortsF l out :=
  ⟨fun x => ⟨h.mem x, fun hx => (h.all x hx).resolve_right (by rw [hn x hx]; decide)⟩, h.ord⟩
instance instDecFw : DecidableEq Fw := fun a b => decidable_of_iff _ (eqFw_iff a b)
theorem nodup_len : ∀ {out l : List Fw}, out.Pairwise (· ≠ ·) → (∀ x ∈ out, x ∈ l) → out.length ≤ l.length
  | [], l, _, _ => Nat.zero_le _
  | x :: r, l, hd, hm => by
    obtain ⟨h1, h2⟩ := List.pairwise_cons.1 hd
    have hx := hm x (by simp)
    have ih := nodup_len (out := r) (l := l.erase x) h2 fun y hy => (List.mem_erase_of_ne (h1 y hy).symm).2 (hm y (by simp [hy]))
    rw [List.length_erase_of_mem hx] at ih
    have := List.length_pos_of_mem hx
    simp
    omega
theorem InvS.len {l out : List Fw} (h : InvS l out) : out.length ≤ l.length :=
  nodup_len (h.ord.imp fun {a b} hl e => by rw [e, lessF_irr] at hl; exact absurd hl (by decide)) h.mem

/-- the best of the first k that come behind the last one taken -/
def BestI (l out : List Fw) (k : Nat) (b : Int) : Prop :=
  (b = -1 ∧ ∀ j, j < k → lateB out (l.getD j zeroF) = false) ∨ (∃ j : Nat, b = j ∧ j < k ∧ lateB out (l.getD j zeroF) = true ∧ ∀ i, i < k → lateB out (l.getD i zeroF) = true → lessF (l.getD i zeroF) (l.getD j zeroF) = false)
theorem BestI.zero (l out : List Fw) : BestI l out 0 (-1) := .inl ⟨rfl, fun j h => by omega⟩
section
variable {l out : List Fw} {k : Nat} {b : Int}
theorem BestI.not_late (h : BestI l out k b) (hl : lateB out (l.getD k zeroF) = false) : BestI l out (k + 1) b := by
  rcases h with ⟨e, h⟩ | ⟨j, e, hj, h1, h2⟩
  · refine .inl ⟨e, fun j hj => ?_⟩
    rcases Nat.lt_or_ge j k with h3 | h3
    · exact h j h3
    · obtain rfl : j = k := by omega
      exact hl
  · refine .inr ⟨j, e, by omega, h1, fun i hi hli => ?_⟩
    rcases Nat.lt_or_ge i k with h3 | h3
    · exact h2 i h3 hli
    · obtain rfl : i = k := by omega
      rw [hl] at hli
      exact absurd hli (by decide)
theorem BestI.first (h : BestI l out k b) (hb : b < 0) (hl : lateB out (l.getD k zeroF) = true) : BestI l out (k + 1) k := by
  rcases h with ⟨_, h⟩ | ⟨j, e, hj, h1, h2⟩
  · refine .inr ⟨k, rfl, by omega, hl, fun i hi hli => ?_⟩
    rcases Nat.lt_or_ge i k with h3 | h3
    · rw [h i h3] at hli
      exact absurd hli (by decide)
    · obtain rfl : i = k := by omega
      exact lessF_irr _
  · omega
theorem BestI.less {j : Nat} (h : BestI l out k j) (hl : lateB out (l.getD k zeroF) = true) (hk : lessF (l.getD k zeroF) (l.getD j zeroF) = true) : BestI l out (k + 1) k := by
  rcases h with ⟨e, _⟩ | ⟨j', e, hj, h1, h2⟩
  · omega
  · obtain rfl : j = j' := by omega
    refine .inr ⟨k, rfl, by omega, hl, fun i hi hli => ?_⟩
    rcases Nat.lt_or_ge i k with h3 | h3
    · cases h4 : lessF (l.getD i zeroF) (l.getD k zeroF)
      · rfl
      · have := lessF_trans h4 hk
        rw [h2 i h3 hli] at this
        exact absurd this (by decide)
    · obtain rfl : i = k := by omega
      exact lessF_irr _
theorem BestI.more {j : Nat} (h : BestI l out k j) (hk : lessF (l.getD k zeroF) (l.getD j zeroF) = false) : BestI l out (k + 1) j := by
  rcases h with ⟨e, _⟩ | ⟨j', e, hj, h1, h2⟩
  · omega
  · obtain rfl : j = j' := by omega
    refine .inr ⟨j, rfl, by omega, h1, fun i hi hli => ?_⟩
    rcases Nat.lt_or_ge i k with h3 | h3
    · exact h2 i h3 hli
    · obtain rfl : i = k := by omega
      exact hk
theorem BestI.cases (h : BestI l out k b) : b = -1 ∨ ∃ j : Nat, b = j ∧ j < k := by
  rcases h with ⟨e, _⟩ | ⟨j, e, hj, _⟩
  · exact .inl e
  · exact .inr ⟨j, e, hj⟩
theorem BestI.none_ (h : BestI l out l.length (-1)) (hi : InvS l out) : SortsF l out := by
  rcases h with ⟨_, h⟩ | ⟨j, e, hj, _⟩
  · refine hi.end_ fun x hx => ?_
    obtain ⟨i, hil, rfl⟩ := List.getElem_of_mem hx
    have := h i hil
    simpa [List.getD, hil] using this
  · omega
theorem BestI.some_ {j : Nat} (h : BestI l out l.length j) (hi : InvS l out) (hl : ∀ x ∈ l, x.ok) : InvS l (out ++ [l.getD j zeroF]) := by
  rcases h with ⟨e, _⟩ | ⟨j', e, hj, h1, h2⟩
  · omega
  · obtain rfl : j = j' := by omega
    refine hi.step hl (by simp [List.getD, hj]) h1 fun z hz hlz => ?_
    obtain ⟨i, hil, rfl⟩ := List.getElem_of_mem hz
    have e2 : l.getD i zeroF = l[i] := by simp [List.getD, hil]
    have := h2 i hil (by rw [e2]; exact hlz)
    rwa [e2] at this
end

theorem exec_load_fwat {f : Operand → Value} {dd : Option Tmp} {x : Operand} {ty : TypeId} {pos : String} {gd : Option (Nat × Bool)} {w : World} {b p : Nat} {h : Fw} (hx : f x = .pointer (some ⟨b, p, none⟩)) (hc : w.rangeAt b p (fwC h)) (hs : h.s.length = 16) (hd : h.d.length = 16) :
    (execOp f ⟨dd, .load 25 x, ty, pos, #[], gd⟩).run Tryd.prog w = .ok (.value (.agg (fwC h).toArray)) w := by
  unfold execOp
  simp only [hx, Instr.loadAt, Instr.sureAddr, Sem.run_bind, Sem.run_pure, Result.andThen_ok, run_loadVar_mid w b p 25 (fwC h) _ hc Tryd.underlying25 rfl (by rw [flow_size]; simp [fwC_length hs hd])]
set_option maxRecDepth 100000 in
theorem exec_index_fw {f : Operand → Value} {dd : Option Tmp} {x y : Operand} {ty : TypeId} {pos : String} {gd : Option (Nat × Bool)} {w : World} {b o n c i : Nat} (hx : f x = .slice (some ⟨b, o, none⟩) n c) (hy : f y = .int .i64 (i : Int)) (hi : i < n) :
    (execOp f ⟨dd, .indexAddr 32 x y, ty, pos, #[], gd⟩).run Tryd.prog w = .ok (.value (.pointer (some ⟨b, o + i * 34, none⟩))) w := by
  go_simp
theorem walkP_actskip {P : Program} {ops : Array Oper} {Q : Exit → Act → World → Prop} {i : Nat} {r : Plan} {d : Option Tmp} {op : Op} {t : TypeId} {pos : String} {aft : Array Edge} {g : Option (Nat × Bool)} {a : Act} {w : World} (hi : ops[i]? = some ⟨d, op, t, pos, aft, g⟩)
    (hw : Region.wanted ⟨d, op, t, pos, #[], g⟩ (yielded ops a.tmps) = false) (h : walkP P ops Q r (a.put d undef) w) : walkP P ops Q (.act i r) a w := by
  have hw' : Region.wanted ⟨d, op, t, pos, aft, g⟩ (yielded ops a.tmps) = false := hw
  unfold walkP wpOp
  simp only [hi, hw', Bool.false_eq_true, if_false]
  exact ⟨Low.refl w, h⟩

def lenVF : Value → Nat
  | .slice _ m _ => m
  | _ => 0
set_option maxRecDepth 100000 in
set_option maxHeartbeats 12800000 in
theorem rsort_any (A : Option Addr) (n c : Nat) (l : List Fw) (w : World) (hn : n ≤ 60) (hl : Es fwE w w.heap.size A n l) :
    Calls Tryd.prog 15 #[.slice A n c] w fun e w' => ∃ A' m c' out, e = .returned (.slice A' m c') ∧ m ≤ 60 ∧ Es fwE w' w'.heap.size A' m out ∧ SortsF l out ∧ Below w.heap.size w w' := by
  obtain ⟨i0, hi, hz0, hz1, hz2⟩ := info_parts info_flow
  have HI := Lib.hid hi
  have HZ0 := Lib.hid hz0
  have HZ1 := Lib.hid hz1
  have HZ2 := Lib.hid hz2
  have HES := Lib.hid hl
  have HLN := Lib.hid hl.len
  have HAL := Lib.hid (show ∀ x ∈ l, x.ok from hl.all)
  clear hi hz0 hz1 hz2 hl
  go_enter Tryd.func15, Tryd.ntmps15
  go_wp2_with fail
  go_loopw [3] (fun v3 wr => ∃ (m : Nat) (A' : Option Addr) (c' : Nat) (out : List Fw), v3 = .slice A' m c' ∧ m ≤ n ∧ Hid (OwnE fwE 25 wr w.heap.size A' m c' out) ∧ Hid (InvS l out) ∧ Below w.heap.size w wr)
    (fun v3 _ => n + 1 - lenVF v3)
  case atStart => exact ⟨0, none, 0, [], rfl, Nat.zero_le _, Lib.hid (OwnE.none_ _ _ _ _), Lib.hid (InvS.nil l), Below.refl _ _⟩
  case round =>
    obtain ⟨m, A', c', out, rfl, hmn, HOW, HIV, hB⟩ := hrel
    obtain ⟨wo, rfl⟩ : ∃ wo, wo = wr := ⟨_, rfl⟩
    go_wp2_with fail
    go_loopw [4, 5] (fun v4 v5 wq => ∃ (k : Nat) (b : Int), k ≤ n ∧ v5 = .int .i64 k ∧ v4 = .int .i64 b ∧ Hid (BestI l out k b) ∧ Low wo wq) (fun _ v5 _ => n - (intOf v5).toNat)
    case atStart => exact ⟨0, -1, Nat.zero_le _, rfl, rfl, Lib.hid (BestI.zero l out), Low.refl _⟩
    case round =>
      obtain ⟨k, b, hk, rfl, rfl, HBI, hq⟩ := hrel
      by_cases hlt : k < n
      · obtain ⟨b0, o0, rfl, hbl, -⟩ := HES.out.mem (by omega)
        obtain ⟨x, hx⟩ : ∃ x, x = l.getD k zeroF := ⟨_, rfl⟩
        have HXO : Hid (x.ok) := Lib.hid (hx ▸ Elt.all_getD (E := fwE) HES.out.all k)
        have HRX : Hid (∀ y, Low wo y → y.rangeAt b0 (o0 + k * 34) (fwC x)) := Lib.hid fun y hy => hx ▸ ((HES.out.below (hB.trans (hy.mono hB.size))).at_ hlt).2
        have HOL := Lib.hid ((HOW.out.lies (Nat.le_refl _)))
        replace hx := Lib.hid hx
        go_upto_region 7 with fail
        go_cut [6] from 12 to 50 (fun v6 wx => v6 = .bool (lateB out x) ∧ Low wo wx)
        case first =>
          rcases Nat.eq_zero_or_pos m with hm | hm
          · subst hm
            have HLB : Hid (lateB out x = true) := Lib.hid (by unfold lateB; rw [if_pos HOL.out.len])
            refine wp_region_plan (.rd 0 (.rd 1 (.rd 2 (.rd 3 (.rd 4 (.rd 5 (.rd 6 (.rd 7 (.rd 8 (.rd 9 (.rd 10 (.rd 11 (.rd 12 (.rd 13 (.act 14 (.rd 15 (.rd 16 (.done))))))))))))))))))
              (by kernel_rfl) (by kernel_rfl) (fun _ _ d _ _ h => by cases d <;> exact h) (by kernel_rfl) ?_
            iterate 4 (refine walkP_read (v := _) rfl (by rfl) (by intro y hy; go_simp; try rfl) ?_; simp only [Act.put, List.setIfInBounds_toArray, List.set_cons_zero, List.set_cons_succ])
            iterate 10 (refine walkP_skip rfl (by rfl) ?_; simp only [Act.put, List.setIfInBounds_toArray, List.set_cons_zero, List.set_cons_succ])
            refine walkP_actskip rfl (by rfl) ?_
            simp only [Act.put, List.setIfInBounds_toArray, List.set_cons_zero, List.set_cons_succ]
            iterate 2 (refine walkP_read (v := _) rfl (by rfl) (by intro y hy; go_simp; try rfl) ?_; simp only [Act.put, List.setIfInBounds_toArray, List.set_cons_zero, List.set_cons_succ])
            unfold walkP
            go_wp2_with fail
            go_meet
            exact ⟨by rw [HLB.out], hq.trans (Below.drew (Below.refl _ _))⟩
          · obtain ⟨m1, rfl⟩ : ∃ m1, m = m1 + 1 := ⟨m - 1, by omega⟩
            obtain ⟨g, o, rfl, hgl, -⟩ := HOL.out.mem hm
            obtain ⟨z, hz⟩ : ∃ z, z = out.getD m1 zeroF := ⟨_, rfl⟩
            have HLB : Hid (lateB out x = lessF z x) := Lib.hid (by unfold lateB; rw [if_neg (by rw [HOL.out.len]; omega), HOL.out.len, hz]; rfl)
            have HZO : Hid (z.ok) := Lib.hid (hz ▸ Elt.all_getD (E := fwE) HOL.out.all m1)
            have HRZ : Hid (∀ y, Low wo y → y.rangeAt g (o + m1 * 34) (fwC z)) := Lib.hid fun y hy => hz ▸ ((HOL.out.below hy).at_ (i := m1) (by omega)).2
            have HC := Lib.hid (fun u => rfless_any z x u HZO.out HXO.out)
            unfold fwV at HC
            clear hz HOW
            refine wp_region_plan (.rd 0 (.rd 1 (.rd 2 (.rd 3 (.rd 4 (.rd 5 (.rd 6 (.rd 7 (.rd 8 (.rd 9 (.rd 10 (.rd 11 (.rd 12 (.rd 13 (.act 14 (.rd 15 (.rd 16 (.done))))))))))))))))))
              (by kernel_rfl) (by kernel_rfl) (fun _ _ d _ _ h => by cases d <;> exact h) (by kernel_rfl) ?_
            have hq2 : Low wo wr.drew := hq.trans (Below.drew (Below.refl _ _))
            generalize wr.drew = wd at *
            have hm1 : ((m1 : Int) + 1 == 0) = false := by
              have : (m1 : Int) + 1 ≠ 0 := by omega
              simpa using this
            have hm2 : (((m1 + 1 : Nat) : Int) == 0) = false := by
              have : ((m1 + 1 : Nat) : Int) ≠ 0 := by omega
              simpa using this
            iterate 4 (refine walkP_read (v := _) rfl (by rfl) (by intro y hy; go_simp; try rfl) ?_; simp only [Act.put, List.setIfInBounds_toArray, List.set_cons_zero, List.set_cons_succ])
            iterate 3 (refine walkP_read (v := _) rfl (by rfl) (by intro y hy; go_simp; try rfl) ?_; simp only [Act.put, List.setIfInBounds_toArray, List.set_cons_zero, List.set_cons_succ])
            refine walkP_read (v := .int .i64 (m1 : Int)) rfl (by rfl) (by intro y hy; go_simp; exact wraps_i64 _ (by omega) (by omega)) ?_
            simp only [Act.put, List.setIfInBounds_toArray, List.set_cons_zero, List.set_cons_succ]
            refine walkP_read (v := .pointer (some ⟨g, o + m1 * 34, none⟩)) rfl (by rfl) (by intro y hy; exact exec_index_fw rfl rfl (by omega)) ?_
            simp only [Act.put, List.setIfInBounds_toArray, List.set_cons_zero, List.set_cons_succ]
            refine walkP_read (v := .agg (fwC z).toArray) rfl (by rfl) (by intro y hy; exact exec_load_fwat rfl (HRZ.out y (hq2.trans hy)) HZO.out.s HZO.out.d) ?_
            simp only [Act.put, List.setIfInBounds_toArray, List.set_cons_zero, List.set_cons_succ]
            iterate 2 (refine walkP_read (v := _) rfl (by rfl) (by intro y hy; go_simp; try rfl) ?_; simp only [Act.put, List.setIfInBounds_toArray, List.set_cons_zero, List.set_cons_succ])
            refine walkP_read (v := .pointer (some ⟨b0, o0 + k * 34, none⟩)) rfl (by rfl) (by intro y hy; exact exec_index_fw rfl rfl hlt) ?_
            simp only [Act.put, List.setIfInBounds_toArray, List.set_cons_zero, List.set_cons_succ]
            refine walkP_read (v := .agg (fwC x).toArray) rfl (by rfl) (by intro y hy; exact exec_load_fwat rfl (HRX.out y (hq2.trans hy)) HXO.out.s HXO.out.d) ?_
            simp only [Act.put, List.setIfInBounds_toArray, List.set_cons_zero, List.set_cons_succ]
            refine walkP_act rfl (by rfl) (fun K hK => ?_)
            go_simp
            refine (HC.out wd).mono ?_
            rintro e we ⟨rfl, hl⟩
            replace hl : Low wd we := hl
            go_simp
            refine hK _ _ hl ?_
            clear hK K
            iterate 2 (refine walkP_read (v := _) rfl (by rfl) (by intro y hy; go_simp; try rfl) ?_; simp only [Act.put, List.setIfInBounds_toArray, List.set_cons_zero, List.set_cons_succ])
            unfold walkP
            go_wp2_with fail
            go_meet
            exact ⟨by rw [HLB.out], hq2.trans hl⟩
        case rest =>
          obtain ⟨rfl, hq3⟩ := hcut
          clear hq HOW HOL HIV hmn
          go_wp2_with fail
          refine wp_region_plan (.rd 0 (.rd 1 (.rd 2 (.rd 3 (.rd 4 (.rd 5 (.rd 6 (.rd 7 (.rd 8 (.rd 9 (.rd 10 (.rd 11 (.rd 12 (.act 13 (.rd 14 (.rd 15 (.done)))))))))))))))))
            (by kernel_rfl) (by kernel_rfl) (fun _ _ d _ _ h => by cases d <;> exact h) (by kernel_rfl) ?_
          have hq4 : Low wo wc.drew := hq3.trans (Below.drew (Below.refl _ _))
          generalize wc.drew = wd at *
          cases hlb : lateB out x
          · have HB2 := Lib.hid (HBI.out.not_late (hx.out ▸ hlb))
            clear hlb HBI HRX hB
            iterate 2 (refine walkP_read (v := _) rfl (by rfl) (by intro y hy; go_simp; try rfl) ?_; simp only [Act.put, List.setIfInBounds_toArray, List.set_cons_zero, List.set_cons_succ])
            iterate 11 (refine walkP_skip rfl (by rfl) ?_; simp only [Act.put, List.setIfInBounds_toArray, List.set_cons_zero, List.set_cons_succ])
            refine walkP_actskip rfl (by rfl) ?_
            simp only [Act.put, List.setIfInBounds_toArray, List.set_cons_zero, List.set_cons_succ]
            iterate 1 (refine walkP_skip rfl (by rfl) ?_; simp only [Act.put, List.setIfInBounds_toArray, List.set_cons_zero, List.set_cons_succ])
            iterate 1 (refine walkP_read (v := _) rfl (by rfl) (by intro y hy; go_simp; try rfl) ?_; simp only [Act.put, List.setIfInBounds_toArray, List.set_cons_zero, List.set_cons_succ])
            unfold walkP
            go_wp2_with fail
            go_roundw
            case rel =>
              first
              | exact ⟨k + 1, b, by omega, by go_num, rfl, HB2, hq4⟩
              | ((repeat apply Exists.intro); exact ⟨⟨k + 1, b, by omega, by go_num, rfl, HB2, hq4⟩, rfl⟩)
            case measure => simp [intOf]; omega
          · rcases HBI.out.cases with rfl | ⟨j, rfl, hj⟩
            · have HB2 := Lib.hid (HBI.out.first (by omega) (hx.out ▸ hlb))
              clear hlb HBI HRX hB
              iterate 5 (refine walkP_read (v := _) rfl (by rfl) (by intro y hy; go_simp; try rfl) ?_; simp only [Act.put, List.setIfInBounds_toArray, List.set_cons_zero, List.set_cons_succ])
              iterate 8 (refine walkP_skip rfl (by rfl) ?_; simp only [Act.put, List.setIfInBounds_toArray, List.set_cons_zero, List.set_cons_succ])
              refine walkP_actskip rfl (by rfl) ?_
              simp only [Act.put, List.setIfInBounds_toArray, List.set_cons_zero, List.set_cons_succ]
              iterate 2 (refine walkP_read (v := _) rfl (by rfl) (by intro y hy; go_simp; try rfl) ?_; simp only [Act.put, List.setIfInBounds_toArray, List.set_cons_zero, List.set_cons_succ])
              unfold walkP
              go_wp2_with fail
              go_roundw
              case rel =>
                first
                | exact ⟨k + 1, k, by omega, by go_num, rfl, HB2, hq4⟩
                | ((repeat apply Exists.intro); exact ⟨⟨k + 1, k, by omega, by go_num, rfl, HB2, hq4⟩, rfl⟩)
              case measure => simp [intOf]; omega
            · obtain ⟨z, hz⟩ : ∃ z, z = l.getD j zeroF := ⟨_, rfl⟩
              have HZO : Hid (z.ok) := Lib.hid (hz ▸ Elt.all_getD (E := fwE) HES.out.all j)
              have HRZ : Hid (∀ y, Low wo y → y.rangeAt b0 (o0 + j * 34) (fwC z)) := Lib.hid fun y hy => hz ▸ ((HES.out.below (hB.trans (hy.mono hB.size))).at_ (i := j) (by omega)).2
              have HC := Lib.hid (fun u => rfless_any x z u HXO.out HZO.out)
              unfold fwV at HC
              have HLE : Hid (lessF x z = true → BestI l out (k + 1) k) := Lib.hid fun h => HBI.out.less (hx.out ▸ hlb) (hx.out ▸ hz ▸ h)
              have HMO : Hid (lessF x z = false → BestI l out (k + 1) j) := Lib.hid fun h => HBI.out.more (hx.out ▸ hz ▸ h)
              clear hz hlb HBI hB
              have hj0 : decide ((j : Int) < 0) = false := by simp
              iterate 7 (refine walkP_read (v := _) rfl (by rfl) (by intro y hy; go_simp; try rfl) ?_; simp only [Act.put, List.setIfInBounds_toArray, List.set_cons_zero, List.set_cons_succ])
              refine walkP_read (v := .pointer (some ⟨b0, o0 + k * 34, none⟩)) rfl (by rfl) (by intro y hy; exact exec_index_fw rfl rfl hlt) ?_
              simp only [Act.put, List.setIfInBounds_toArray, List.set_cons_zero, List.set_cons_succ]
              refine walkP_read (v := .agg (fwC x).toArray) rfl (by rfl) (by intro y hy; exact exec_load_fwat rfl (HRX.out y (hq4.trans hy)) HXO.out.s HXO.out.d) ?_
              simp only [Act.put, List.setIfInBounds_toArray, List.set_cons_zero, List.set_cons_succ]
              iterate 2 (refine walkP_read (v := _) rfl (by rfl) (by intro y hy; go_simp; try rfl) ?_; simp only [Act.put, List.setIfInBounds_toArray, List.set_cons_zero, List.set_cons_succ])
              refine walkP_read (v := .pointer (some ⟨b0, o0 + j * 34, none⟩)) rfl (by rfl) (by intro y hy; exact exec_index_fw rfl rfl (by omega)) ?_
              simp only [Act.put, List.setIfInBounds_toArray, List.set_cons_zero, List.set_cons_succ]
              refine walkP_read (v := .agg (fwC z).toArray) rfl (by rfl) (by intro y hy; exact exec_load_fwat rfl (HRZ.out y (hq4.trans hy)) HZO.out.s HZO.out.d) ?_
              simp only [Act.put, List.setIfInBounds_toArray, List.set_cons_zero, List.set_cons_succ]
              refine walkP_act rfl (by rfl) (fun K hK => ?_)
              go_simp
              refine (HC.out wd).mono ?_
              rintro e we ⟨rfl, hl⟩
              replace hl : Low wd we := hl
              go_simp
              refine hK _ _ hl ?_
              clear hK K
              have hq5 := hq4.trans hl
              clear HRX HRZ HC hl hq4
              cases hlz : lessF x z
              · have HB2 := Lib.hid (HMO.out hlz)
                clear hlz HMO HLE
                iterate 2 (refine walkP_read (v := _) rfl (by rfl) (by intro y hy; go_simp; try rfl) ?_; simp only [Act.put, List.setIfInBounds_toArray, List.set_cons_zero, List.set_cons_succ])
                unfold walkP
                go_wp2_with fail
                go_roundw
                case rel =>
                  first
                  | exact ⟨k + 1, j, by omega, by go_num, rfl, HB2, hq5⟩
                  | ((repeat apply Exists.intro); exact ⟨⟨k + 1, j, by omega, by go_num, rfl, HB2, hq5⟩, rfl⟩)
                case measure => simp [intOf]; omega
              · have HB2 := Lib.hid (HLE.out hlz)
                clear hlz HMO HLE
                iterate 2 (refine walkP_read (v := _) rfl (by rfl) (by intro y hy; go_simp; try rfl) ?_; simp only [Act.put, List.setIfInBounds_toArray, List.set_cons_zero, List.set_cons_succ])
                unfold walkP
                go_wp2_with fail
                go_roundw
                case rel =>
                  first
                  | exact ⟨k + 1, k, by omega, by go_num, rfl, HB2, hq5⟩
                  | ((repeat apply Exists.intro); exact ⟨⟨k + 1, k, by omega, by go_num, rfl, HB2, hq5⟩, rfl⟩)
                case measure => simp [intOf]; omega
      · obtain rfl : k = n := by omega
        have HBE : Hid (BestI l out l.length b) := Lib.hid (by rw [HLN.out]; exact HBI.out)
        have HOW2 := Lib.hid (HOW.out.below hq)
        have hB2 := hB.trans (hq.mono hB.size)
        clear HOW HBI hB hq
        rcases HBE.out.cases with rfl | ⟨j, rfl, hj⟩
        · have HSO := Lib.hid (HBE.out.none_ HIV.out)
          clear HBE HIV
          go_wp2_with fail
          go_ret
          exact ⟨A', m, c', out, rfl, by omega, HOW2.out.lies (Nat.le_refl _), HSO.out, hB2⟩
        · have HI2 := Lib.hid (HBE.out.some_ HIV.out HAL.out)
          have hj' : j < k := by rw [HLN.out] at hj; exact hj
          clear hj
          obtain ⟨b0, o0, rfl, hbl, -⟩ := HES.out.mem (by omega)
          obtain ⟨z, hz⟩ : ∃ z, z = l.getD j zeroF := ⟨_, rfl⟩
          have HZO : Hid (z.ok) := Lib.hid (hz ▸ Elt.all_getD (E := fwE) HES.out.all j)
          have HR : Hid (wr.rangeAt b0 (o0 + j * 34) (fwC z)) := Lib.hid (hz ▸ ((HES.out.below hB2).at_ (i := j) hj').2)
          have hmk := HI2.out.len
          rw [List.length_append, HOW2.out.len, HLN.out, List.length_singleton] at hmk
          rw [← hz] at HI2
          clear hz HBE HIV
          have hj0 : decide ((j : Int) < 0) = false := by simp
          go_wp2_with (first
            | (with_reducible refine wpList_load_fwat rfl (.tmp 56) rfl b0 (o0 + j * 34) rfl z HZO.out.s HZO.out.d HR.out ?_)
            | ((with_reducible refine wpList_one_fw rfl (.tmp 57) rfl z rfl HZO.out ?_); intro w6 hE6 hl6 hz6; refine Hid.out ?_))
          refine Lib.hid ?_
          have HE6 := Lib.hid hE6
          have hO6 := HOW2.out.below hl6
          have hB6 := hB2.trans (hl6.mono hB2.size)
          clear hE6 HOW2 hB2 hl6 HR hz6
          go_wp2_with (at_builtin; refine wpList_append_es (E := fwE) rfl (.tmp 53) (.tmp 58) _ rfl w.heap.size 25 i0 _ 48 Tryd.underlying32 HI.out HZ0.out HZ1.out (by simp [fwV, Value.cells, fwC_length (f := zeroF) rfl rfl]; rfl) HZ2.out A' m c' out rfl hO6 _ 1 1 _ [z] rfl HE6.out (by omega) (by omega) hB6.size ?_; intro A7 c7 w7 hown7 hgrow7 hloc7; refine Hid.out ?_)
          refine Lib.hid ?_
          have HOW7 := Lib.hid hown7
          have hB7 := hB6.grown hgrow7 hB6.size (fun j hj => (hO6.lt j hj).1)
          clear hown7 hgrow7 hloc7 hO6 hB6 HE6
          go_wp2_with fail
          go_roundw
          case rel =>
            first
            | exact ⟨m + 1, A7, c7, out ++ [z], rfl, by omega, HOW7, HI2, hB7⟩
            | ((repeat apply Exists.intro); exact ⟨⟨m + 1, A7, c7, out ++ [z], rfl, by omega, HOW7, HI2, hB7⟩, rfl⟩)
          case measure => simp [lenVF]; omega
end Go.Proofs.YtjafjapnmffohaaDoor
