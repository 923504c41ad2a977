/- Stage 20: what the program's own history is to tell, as a structure over any memory of its own; the law's 'same'; what the laws ask of every program. No condition. -/
import Derived.Test.YtedldebomoplmaaHiD
set_option maxRecDepth 100000
namespace Go.Proofs.Ytedldebomoplmaa
open Go.RowKit
set_option linter.unusedVariables false

/-- it may be written to -/
def FreeN (w : World) (A : Option Addr) (n : Nat) : Prop := ∀ b o j, A = some ⟨b, o, none⟩ → j < n → w.frozen? ⟨b, o + j, none⟩ = false
/-- a history of the program: R says that it stands at p, keeps its memory in F, and holds these versions -/
structure HiObj where
  R : World → Value → (Nat → Prop) → List Vb → Int → Prop
  under : ∀ {w p F l n}, R w p F l n → Under F w
  keep : ∀ {w w' p F l n}, R w p F l n → w.heap.size ≤ w'.heap.size → (∀ k, F k → w'.heap[k]? = w.heap[k]?) → R w' p F l n
  new : ∀ w, Calls Try.prog 6 #[] w fun e w' => ∃ g F, e = .returned (.pointer (some ⟨g, 0, none⟩)) ∧ R w' (.pointer (some ⟨g, 0, none⟩)) F [] 0 ∧ (∀ k, F k → w.heap.size ≤ k) ∧ Low w w'
  push : ∀ {w p F l last} (now : Int) (A : Option Addr) (n c : Nat) (t : List Int), R w p F l last → RightH l last → last ≤ 1000 → i64ok now → Ns w w.heap.size A n t → n ≤ c → n ≤ 17592186044416 →
    Calls Try.prog 9 #[p, .int .i64 now, .slice A n c] w fun e w' => e = .returned (.int .i64 (mayH l now)) ∧ ∃ F', R w' p F' (nextH l last now t) (lastH last (mayH l now)) ∧ Grow F F' w ∧ Out F w w'
  free : ∀ {w p F l last} (now : Int), R w p F l last → RightH l last → last ≤ 1000 → i64ok now →
    Calls Try.prog 8 #[p, .int .i64 now] w fun e w' => e = .returned (.bool (decide (mayH l now = 0))) ∧ Low w w'
  newest : ∀ {w p F l last}, R w p F l last → RightH l last → last ≤ 1000 →
    Calls Try.prog 11 #[p] w fun e w' => ∃ x : Vd, e = .returned (.tuple #[.agg (vdC x).toArray, .bool (decide (0 < l.length))]) ∧ (0 < l.length → x.n = (l.getD (l.length - 1) zeroVb).n) ∧ Low w w'
  all : ∀ {w p F l last}, R w p F l last → RightH l last → last ≤ 1000 →
    Calls Try.prog 15 #[p] w fun e w' => ∃ A n c l', e = .returned (.slice A n c) ∧ l'.map Vd.v = l ∧ n ≤ c ∧ Vs (fun _ => False) 17592186044416 w' A n l' ∧ EFrom w.heap.size A n ∧ (∀ x ∈ l', IFrom w.heap.size x.A x.k ∧ FreeN w' x.A x.k) ∧ Low w w'
  pairs : ∀ {w p F l last} (H : Nat), R w p F l last → RightH l last → last ≤ 1000 → (∀ v ∈ l, v.t.length ≤ 300) → H < 18446744073709551616 →
    Calls Try.prog 12 #[p, .int .u64 H] w (GivesTw w (pairsH l H))

/-- what All tells lies outside of what was the history's memory -/
theorem Vs.fresh {F : Nat → Prop} {m n lo : Nat} {w : World} {A : Option Addr} {l : List Vd} (h : Vs (fun _ => False) m w A n l) (hu : ∀ k, F k → k < lo) (hf : EFrom lo A n) (ht : ∀ x ∈ l, IFrom lo x.A x.k) : Vs F m w A n l :=
  ⟨h.row, fun h0 b o e hF => by
    obtain ⟨b', p', e', hlo⟩ := hf h0
    rw [e'] at e
    injection e with e
    injection e with e1 _ _
    have := hu b hF
    omega, fun x hx => ⟨(h.tab x hx).1, offA.fresh hu (ht x hx), (h.tab x hx).2.2⟩⟩
theorem hver_size : (Try.prog.info? 37).map (·.size) = some 4 := by kernel_rfl
theorem hver_zero : (Try.prog.info? 37).map (·.zero) = some (some (.agg (vdC zeroVd).toArray)) := by kernel_rfl
set_option maxHeartbeats 3200000 in
set_option maxRecDepth 100000 in
theorem sameH_any (A B : Option Addr) (n c k d : Nat) (l s : List Vd) (w : World) (hn4 : n ≤ 1000) (ha : Vs (fun _ => False) 17592186044416 w A n l) (hb : Vs (fun _ => False) 17592186044416 w B k s) (he : l.map Vd.v = s.map Vd.v) :
    Calls Try.prog 14 #[.slice A n c, .slice B k d] w fun e w' => e = .returned (.bool true) ∧ Low w w' := by
  have hlk : n = k := by
    have h1 := congrArg List.length he
    rw [List.length_map, List.length_map, ha.len, hb.len] at h1
    exact h1
  subst hlk
  have HG := Lib.hid (show ∀ i, (l.getD i zeroVd).v = (s.getD i zeroVd).v from fun i => by rw [← getD_vb, ← getD_vb, he])
  have HA := Lib.hid ha
  have HB := Lib.hid hb
  clear ha hb he
  have hnn : ((n : Int) != (n : Int)) = false := by simp
  go_enter Try.func14, Try.ntmps14
  go_wp2_with fail
  clear hnn
  go_loopw [5] (fun v5 wr => ∃ i : Nat, i ≤ n ∧ v5 = .int .i64 i ∧ Hid (Low w wr)) (fun v _ => n - (intOf v).toNat)
  case atStart => exact ⟨0, by omega, rfl, Lib.hid (Low.refl _)⟩
  case round =>
    obtain ⟨i, hi, rfl, hL⟩ := hrel
    by_cases hlt : i < n
    · have hlt2 : (i : Int) < n := by omega
      obtain ⟨b1, o1, rfl, hb1, hr1, hN1, _, _, hk1⟩ := (HA.out.low hL.out).at_ hlt
      obtain ⟨b2, o2, rfl, hb2, hr2, hN2, _, _, hk2⟩ := (HB.out.low hL.out).at_ hlt
      obtain ⟨p1, p2, p3, p4⟩ := ver_cells hr1
      obtain ⟨q1, q2, q3, q4⟩ := ver_cells hr2
      have he := HG.out i
      generalize l.getD i zeroVd = x at *
      generalize s.getD i zeroVd = y at *
      obtain ⟨xn, xf, xu, xA, xk, xc, xt⟩ := x
      obtain ⟨yn, yf, yu, yA, yk, yc, yt⟩ := y
      dsimp only at p1 p2 p3 p4 q1 q2 q3 q4 hN1 hN2 hk1 hk2
      have e1 : xn = yn := congrArg Vb.n he
      have e2 : xf = yf := congrArg Vb.f he
      have e3 : xu = yu := congrArg Vb.u he
      have e4 : xt = yt := congrArg Vb.t he
      subst e1 e2 e3 e4
      have s1 : (xn != xn) = false := by simp
      have s2 : (xf != xf) = false := by simp
      have s3 : (xu != xu) = false := by simp
      have HI := Lib.hid (fun u hu => rints_any xA yA xk xc yk yc xt xt u (by omega) (hN1.below' (show Low wr u from hu) hu.size) (hN2.below' hu hu.size))
      rw [show decide (xt = xt) = true by simp] at HI
      clear hr1 hr2 hN1 hN2 he hk1 hk2
      go_wp2_with fail
      refine wp_region_plan (.rd 0 (.rd 1 (.rd 2 (.rd 3 (.rd 4 (.rd 5 (.rd 6 (.rd 7 (.rd 8 (.rd 9 (.rd 10 (.rd 11 (.rd 12 (.rd 13 (.rd 14 (.rd 15 (.rd 16 (.rd 17 (.rd 18 (.rd 19 (.rd 20 (.rd 21 (.rd 22 (.rd 23 (.rd 24 (.rd 25 (.rd 26 (.rd 27 (.rd 28 (.rd 29 (.rd 30 (.rd 31 (.rd 32 (.rd 33 (.rd 34 (.rd 35 (.rd 36 (.rd 37 (.rd 38 (.rd 39 (.rd 40 (.rd 41 (.rd 42 (.rd 43 (.rd 44 (.rd 45 (.rd 46 (.rd 47 (.act 48 (.rd 49 (.rd 50 (.done)))))))))))))))))))))))))))))))))))))))))))))))))))) (by kernel_rfl) (by kernel_rfl) (fun _ _ d _ _ h => by cases d <;> exact h) (by kernel_rfl) ?_
      replace hL : Hid (Low w wr.drew) := Lib.hid (Below.drew hL.out)
      replace p1 : wr.drew.cell? ⟨b1, o1 + i * 4, none⟩ = _ := p1
      replace p2 : wr.drew.cell? ⟨b1, o1 + i * 4 + 1, none⟩ = _ := p2
      replace p3 : wr.drew.cell? ⟨b1, o1 + i * 4 + 2, none⟩ = _ := p3
      replace p4 : wr.drew.cell? ⟨b1, o1 + i * 4 + 3, none⟩ = _ := p4
      replace q1 : wr.drew.cell? ⟨b2, o2 + i * 4, none⟩ = _ := q1
      replace q2 : wr.drew.cell? ⟨b2, o2 + i * 4 + 1, none⟩ = _ := q2
      replace q3 : wr.drew.cell? ⟨b2, o2 + i * 4 + 2, none⟩ = _ := q3
      replace q4 : wr.drew.cell? ⟨b2, o2 + i * 4 + 3, none⟩ = _ := q4
      replace hb1 : b1 < wr.drew.heap.size := hb1
      replace hb2 : b2 < wr.drew.heap.size := hb2
      replace HI := Lib.hid (fun u (hu : Low wr.drew u) => HI.out u (Low.trans (show Low wr wr.drew from Below.drew (Low.refl wr)) hu))
      generalize wr.drew = wa at *
      iterate 48 (refine walkP_read (v := _) rfl (by rfl) (by
          intro yw hyw
          have rp1 := (hyw.cell (p := ⟨b1, o1 + i * 4, none⟩) hb1).trans p1
          have rp2 := (hyw.cell (p := ⟨b1, o1 + i * 4 + 1, none⟩) hb1).trans p2
          have rp3 := (hyw.cell (p := ⟨b1, o1 + i * 4 + 2, none⟩) hb1).trans p3
          have rp4 := (hyw.cell (p := ⟨b1, o1 + i * 4 + 3, none⟩) hb1).trans p4
          have rq1 := (hyw.cell (p := ⟨b2, o2 + i * 4, none⟩) hb2).trans q1
          have rq2 := (hyw.cell (p := ⟨b2, o2 + i * 4 + 1, none⟩) hb2).trans q2
          have rq3 := (hyw.cell (p := ⟨b2, o2 + i * 4 + 2, none⟩) hb2).trans q3
          have rq4 := (hyw.cell (p := ⟨b2, o2 + i * 4 + 3, none⟩) hb2).trans q4
          first
          | (go_simp; try rfl)) ?_; simp only [Act.put, List.setIfInBounds_toArray, List.set_cons_zero, List.set_cons_succ])
      refine walkP_act rfl (by rfl) (fun K hK => ?_)
      go_simp
      refine (HI.out wa (Low.refl _)).mono ?_
      rintro e w9 ⟨rfl, hl9⟩
      go_simp
      refine hK _ _ hl9 ?_
      clear hK K
      replace hL := Lib.hid (hL.out.trans hl9)
      clear hl9 p1 p2 p3 p4 q1 q2 q3 q4 hb1 hb2 HI
      iterate 2 (refine walkP_read (v := _) rfl (by rfl) (by
          intro yw hyw
          first
          | (go_simp; try rfl)) ?_; simp only [Act.put, List.setIfInBounds_toArray, List.set_cons_zero, List.set_cons_succ])
      unfold walkP
      go_wp2_with fail
      go_roundw
      case rel => exact ⟨i + 1, by omega, by go_num, hL⟩
      case measure => simp [intOf]; omega
    · obtain rfl : i = n := by omega
      have hlt2 : ¬ (i : Int) < i := by omega
      go_wp2_with fail
      go_ret
      exact ⟨rfl, hL.out⟩
end Go.Proofs.Ytedldebomoplmaa
