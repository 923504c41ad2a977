/- Stage 20: the document's Push. Conditions: the list is as kept ones always are; tables of at most 2^44 numbers. -/
import Derived.Test.YtedldebomoplmaaHiB
import Derived.OwnWalk
set_option maxRecDepth 100000
namespace Go.Proofs.Ytedldebomoplmaa
open Go.RowKit
set_option linter.unusedVariables false

/-- the newest one's time is over: as it lies -/
def overD (now : Int) : List Vd → List Vd
  | [] => []
  | [v] => [{ v with u := now }]
  | v :: x :: r => v :: overD now (x :: r)
theorem overD_len (now : Int) : ∀ l : List Vd, (overD now l).length = l.length
  | [] => rfl
  | [v] => rfl
  | v :: x :: r => by
    have := overD_len now (x :: r)
    simp only [overD, List.length_cons] at this ⊢
    omega
theorem overD_get (now : Int) : ∀ (l : List Vd) (i : Nat), i < l.length → (overD now l).getD i zeroVd = if i + 1 = l.length then { l.getD i zeroVd with u := now } else l.getD i zeroVd
  | [], i, h => absurd h (by simp)
  | [v], i, h => by
    have : i = 0 := by simpa using h
    subst this
    rfl
  | v :: x :: r, 0, h => by
    rw [if_neg (by simp)]
    rfl
  | v :: x :: r, i + 1, h => by
    have := overD_get now (x :: r) i (by simpa using h)
    show (overD now (x :: r)).getD i zeroVd = _
    rw [this]
    simp
theorem overD_v (now : Int) : ∀ l : List Vd, (overD now l).map Vd.v = overH now (l.map Vd.v)
  | [] => rfl
  | [v] => rfl
  | v :: x :: r => by
    have := overD_v now (x :: r)
    simp only [overD, List.map_cons] at this ⊢
    rw [this]
    rfl
/-- each one's table is an old one's -/
theorem overD_mem (now : Int) : ∀ (l : List Vd) (x : Vd), x ∈ overD now l → ∃ y ∈ l, x.A = y.A ∧ x.k = y.k ∧ x.c = y.c ∧ x.t = y.t
  | [], x, h => by cases h
  | [v], x, h => by
    obtain rfl := List.mem_singleton.1 h
    exact ⟨v, List.mem_cons_self, rfl, rfl, rfl, rfl⟩
  | v :: y :: r, x, h => by
    rcases List.mem_cons.1 h with rfl | h
    · exact ⟨x, List.mem_cons_self, rfl, rfl, rfl, rfl⟩
    · obtain ⟨z, hz, e⟩ := overD_mem now (y :: r) x h
      exact ⟨z, List.mem_cons_of_mem _ hz, e⟩
/-- what has been taken over when i were looked at -/
def outD (now : Int) (g i : Nat) (l : List Vd) : List Vd := ((overD now l).take i).drop g
theorem outD_zero (now : Int) (g : Nat) (l : List Vd) : outD now g 0 l = [] := by simp [outD]
theorem outD_skip (now : Int) (l : List Vd) : outD now 1 1 l = [] := by simp [outD]
theorem outD_next (now : Int) (g i : Nat) (l : List Vd) (hi : i < l.length) (hg : g ≤ i) : outD now g (i + 1) l = outD now g i l ++ [if i + 1 = l.length then { l.getD i zeroVd with u := now } else l.getD i zeroVd] := by
  have h : i < (overD now l).length := by rw [overD_len]; exact hi
  unfold outD
  rw [← overD_get now l i hi, List.take_succ_eq_append_getElem h, List.drop_append_of_le_length (by rw [List.length_take, overD_len]; omega)]
  simp [List.getD, h]
theorem outD_len (now : Int) (g i : Nat) (l : List Vd) (hi : i ≤ l.length) : (outD now g i l).length = i - g := by
  unfold outD
  rw [List.length_drop, List.length_take, overD_len, Nat.min_eq_left hi]
theorem outD_all (now : Int) (g : Nat) (l : List Vd) : outD now g l.length l = (overD now l).drop g := by
  unfold outD
  rw [List.take_of_length_le (by rw [overD_len]; exact Nat.le_refl _)]
theorem push_v (l : List Vd) (last now : Int) (t : List Int) (A : Option Addr) (k c : Nat) : ((overD now l).drop (goneH (l.map Vd.v)) ++ [(⟨last + 1, now, -1, A, k, c, t⟩ : Vd)]).map Vd.v = pushH (l.map Vd.v) last now t := by
  rw [pushH_eq, List.map_append, List.map_drop, overD_v]
  rfl
theorem wpList_load_vH {P : Program} {ops : Array Oper} {rest : List Oper} {o : Oper} {a : Act} {w : World} {Q : Exit → Act → World → Prop} (hgd : o.guard = none) (ty : TypeId) (x : Operand) (ho : o.op = .load ty x) (g : Nat) (hx : a.eval x = .pointer (some ⟨g, 0, none⟩)) (t : TypeId) (vs : List Value) (hb : BlkV w t g vs) (d : TypeDesc)
    (hu : P.underlying ty = some d) (hd : (match d with | .struct _ | .array _ _ => true | _ => false) = true) (hi : (P.info? ty).map (·.size) = some vs.length)
    (hk : wpList P ops Q rest (a.put o.dst (.agg vs.toArray)) w) : wpList P ops Q (o :: rest) a w :=
  wpList_load_row hgd ty x ho g hx t vs.toArray (0, 0) d hb hu hd (by rw [hi]; simp) hk
/-- what Push hands back -/
def GivesVs (w : World) (m : Nat) (A : Option Addr) (n : Nat) (l : List Vd) (r : List Vb) (last er : Int) (e : Ending) (w' : World) : Prop :=
  ∃ A' n' c' l', e = .returned (.tuple #[.slice A' n' c', .int .i64 last, .int .i64 er]) ∧ l'.map Vd.v = r ∧ n' ≤ c' ∧ (∀ F, Under F w → Vs F m w A n l → Vs F m w' A' n' l') ∧ Low w w'

set_option maxHeartbeats 3200000 in
set_option maxRecDepth 100000 in
theorem rpushH_any (A B : Option Addr) (n c k d : Nat) (l : List Vd) (t : List Int) (last now : Int) (m : Nat) (w : World) (hnc : n ≤ c) (hv : Vs (fun _ => False) m w A n l) (hr : RightH (l.map Vd.v) last) (hla : last ≤ 1000000) (hn : i64ok now)
    (ht : Ns w w.heap.size B k t) (hkm : k ≤ m) (hm : m ≤ 17592186044416) :
    Calls Try.prog 10 #[.slice A n c, .int .i64 last, .int .i64 now, .slice B k d] w
      (GivesVs w m A n l (nextH (l.map Vd.v) last now t) (lastH last (mayH (l.map Vd.v) now)) (mayH (l.map Vd.v) now)) := by
  have HM := Lib.hid (rmayH_any A n c l last now m w hv hr hn)
  by_cases he : mayH (l.map Vd.v) now = 0
  · have HNX := Lib.hid (show nextH (l.map Vd.v) last now t = pushH (l.map Vd.v) last now t by unfold nextH; rw [if_pos he])
    have HLA := Lib.hid (show lastH last (mayH (l.map Vd.v) now) = last + 1 by unfold lastH; rw [if_pos he])
    have HL := Lib.hid hv.len
    have hn4 : n ≤ 4 := by have := hr.few; rw [List.length_map, HL.out] at this; exact this
    have hl0 : 0 ≤ last := by have := hr.pos; omega
    have HPV := Lib.hid (fun A k c => push_v l last now t A k c)
    obtain ⟨g0, hg0⟩ : ∃ g0, g0 = goneH (l.map Vd.v) := ⟨_, rfl⟩
    have hgd : (n < 4 ∧ g0 = 0) ∨ (n = 4 ∧ g0 = 1) := by
      rw [hg0]
      unfold goneH
      rw [List.length_map, HL.out]
      split <;> omega
    rw [← hg0] at HPV
    rw [HNX.out, HLA.out, he]
    rw [he] at HM
    obtain ⟨j0, hi, hz0, hz1, hz2⟩ := info_rver_parts
    have RI := Lib.hid hi
    have RZ0 := Lib.hid hz0
    have RZ1 := Lib.hid hz1
    have RZ2 := Lib.hid hz2
    clear hi hz0 hz1 hz2
    obtain ⟨i0, hi, hz0, hz1, hz2⟩ := info_int_partsP
    have HI := Lib.hid hi
    have HZ0 := Lib.hid hz0
    have HZ1 := Lib.hid hz1
    have HZ2 := Lib.hid hz2
    clear hi hz0 hz1 hz2 hg0 he HNX HLA hr
    have HV := Lib.hid hv
    have HT := Lib.hid ht
    clear hv ht
    generalize pushH (l.map Vd.v) last now t = R at *
    go_enter Try.func10, Try.ntmps10
    go_wp2_with fail
    refine HM.out.mono ?_
    rintro e w1 ⟨rfl, rfl⟩
    clear HM
    go_wp2_with fail
    go_loopw [12, 13] (fun v12 v13 wr => ∃ (i q : Nat) (D : Option Addr) (e : Nat), i ≤ n ∧ Hid (q = i - g0) ∧ v13 = .int .i64 i ∧ v12 = .slice D q e ∧ Hid (OwnE verE 57 wr w.heap.size D q e (outD now g0 i l)) ∧ Hid (Low w wr)) (fun _ v _ => n - (intOf v).toNat)
    case atStart => exact ⟨0, 0, none, 0, by omega, Lib.hid (by omega), rfl, rfl, Lib.hid (by rw [outD_zero]; exact OwnE.none_ _ _ _ _), Lib.hid (Low.refl _)⟩
    case round =>
      obtain ⟨i, q, D, e, hi, hq, rfl, rfl, HO, hL⟩ := hrel
      by_cases hlt : i < n
      · have hlt2 : (i : Int) < n := by omega
        obtain ⟨b, o, rfl, _, hrg, _⟩ := (HV.out.low hL.out).at_ hlt
        have HX := Lib.hid (fun hg => outD_next now g0 i l (by rw [HL.out]; exact hlt) hg)
        rw [HL.out] at HX
        generalize l.getD i zeroVd = x at hrg HX
        obtain ⟨xn, xf, xu, xA, xk, xc, xt⟩ := x
        have HRG : Hid (wr.rangeAt b (o + i * 4) [.int .i64 xn, .int .i64 xf, .int .i64 xu, .slice xA xk xc]) := Lib.hid hrg
        clear hrg
        have hcg : (n < 4 ∧ g0 = 0) ∨ (n = 4 ∧ g0 = 1 ∧ i = 0) ∨ (n = 4 ∧ g0 = 1 ∧ 0 < i) := by omega
        obtain ⟨wq, rfl⟩ : ∃ wq, wq = wr := ⟨_, rfl⟩
        go_wp2_with (first
          | (refine wpList_load_mid rfl 57 (.tmp 31) rfl b (o + i * 4) rfl [.int .i64 xn, .int .i64 xf, .int .i64 xu, .slice xA xk xc] _ HRG.out Try.underlying57 rfl rver_size ?_)
          | (with_reducible refine wpList_alloc_v rfl _ rfl _ rver_zero ?_; intro w7 HZ hl7 hz7; refine Hid.out ?_))
        refine Lib.hid ?_
        replace HZ := Lib.hid HZ
        go_wp2_with ((refine wpList_store_v rfl 57 (.tmp 14) (.tmp 32) rfl wq.heap.size rfl [.int .i64 xn, .int .i64 xf, .int .i64 xu, .slice xA xk xc] rfl _ _ HZ.out rfl rver_size (vdC_one ⟨xn, xf, xu, xA, xk, xc, xt⟩) ?_); intro w8 HG hb8 hz8; refine Hid.out ?_)
        refine Lib.hid ?_
        have hl8 : Low wq w8 := Below.trans hl7 hb8
        clear HZ hl7 hz7 hb8 hz8 HRG
        obtain ⟨g, hg⟩ : ∃ g, g = wq.heap.size := ⟨_, rfl⟩
        rw [← hg] at HG ⊢
        have HGE := Lib.hid hg
        have HL8 := Lib.hid hl8
        clear hg hl8
        have n1 : ¬ n = 0 := by omega
        by_cases hla2 : i + 1 = n
        · have g3 : (n : Int) - 1 = (i : Int) := by omega
          have HX2 := Lib.hid (fun hg => (HX.out hg).trans (by rw [if_pos hla2]))
          have c2 : w8.cell? ⟨g, 2, none⟩ = some (.int .i64 xu) := by rw [BlkV.cell HG 2]; rfl
          have f2 := BlkV.frozen HG 2
          have HGZ : Hid (BlkV (w8.setCell ⟨g, 2, none⟩ (.int .i64 now)) 57 g [.int .i64 xn, .int .i64 xf, .int .i64 now, .slice xA xk xc]) := Lib.hid (BlkV.set_ HG 2 (.int .i64 now))
          have HLZ : Hid (Low wq (w8.setCell ⟨g, 2, none⟩ (.int .i64 now))) := Lib.hid (Below.setCell HL8.out (p := ⟨g, 2, none⟩) (by rw [HGE.out]; exact Nat.le_refl _) _)
          replace hla2 := Lib.hid hla2
          clear HG HX
          rcases hcg with ⟨h4, hg0⟩ | ⟨h4, hg1, hi0⟩ | ⟨h4, hg1, hi1⟩
          · have g4 : (n : Int) < 4 := by omega
            have HNX := Lib.hid (HX2.out (by omega))
            have HQ0 := Lib.hid (show q + 1 = i + 1 - g0 by have := hq.out; omega)
            have hq4 : q ≤ 4 := by have := hq.out; omega
            replace hg0 := Lib.hid hg0
            clear HX2
            have hO2 := (HO.out.below HLZ.out).below (Low.alloc (w8.setCell ⟨g, 2, none⟩ (.int .i64 now)) (.cells #[.int .i64 xn, .int .i64 xf, .int .i64 now, .slice xA xk xc] 57))
            have hsz8 : (w8.setCell ⟨g, 2, none⟩ (.int .i64 now)).heap.size = w8.heap.size := by simp
            have hE2 : Es verE ((w8.setCell ⟨g, 2, none⟩ (.int .i64 now)).alloc (.cells #[.int .i64 xn, .int .i64 xf, .int .i64 now, .slice xA xk xc] 57)) (w8.heap.size + 1) (some ⟨w8.heap.size, 0, none⟩) 1 [⟨xn, xf, now, xA, xk, xc, xt⟩] := by
              rw [← hsz8]
              exact Es.one_ (E := verE) (w8.setCell ⟨g, 2, none⟩ (.int .i64 now)) 57 ⟨xn, xf, now, xA, xk, xc, xt⟩ trivial (Nat.lt_succ_self _)
            have HL2 := Lib.hid ((hL.out.trans HLZ.out).trans (Low.alloc (w8.setCell ⟨g, 2, none⟩ (.int .i64 now)) (.cells #[.int .i64 xn, .int .i64 xf, .int .i64 now, .slice xA xk xc] 57)))
            have hbs : w.heap.size ≤ ((w8.setCell ⟨g, 2, none⟩ (.int .i64 now)).alloc (.cells #[.int .i64 xn, .int .i64 xf, .int .i64 now, .slice xA xk xc] 57)).heap.size := HL2.out.size
            go_wp2_with (first
              | (refine wpList_load_vH rfl 57 (.tmp 14) rfl g rfl _ [.int .i64 xn, .int .i64 xf, .int .i64 now, .slice xA xk xc] HGZ.out _ Try.underlying57 rfl rver_size ?_)
              | (at_builtin; refine wpList_append_es (E := verE) rfl (.tmp 47) (.tmp 49) _ rfl w.heap.size 57 j0 _ 48 Try.underlying26 RI.out RZ0.out RZ1.out rfl RZ2.out D q e _ rfl hO2 _ 1 1 (w8.heap.size + 1) [⟨xn, xf, now, xA, xk, xc, xt⟩] rfl hE2 (by omega) (by omega) hbs ?_; intro A9 c9 w9 hown hgr hob; refine Hid.out ?_))
            refine Lib.hid ?_
            have HL9 := Lib.hid (show Low w w9 from Below.grown HL2.out hgr HL2.out.size (fun z hz => (hO2.lt z hz).1))
            rw [← HNX.out] at hown
            have HO9 := Lib.hid hown
            clear hown hgr hob hO2 hE2 HL2 hbs hsz8
            go_wp2_with fail
            go_roundw
            case rel =>
              first
              | exact ⟨i + 1, q + 1, A9, c9, by omega, HQ0, by go_num, rfl, HO9, HL9⟩
              | ((repeat apply Exists.intro); exact ⟨⟨i + 1, q + 1, A9, c9, by omega, HQ0, by go_num, rfl, HO9, HL9⟩, rfl⟩)
            case measure => simp [intOf]; omega
          · exact absurd hla2.out (by omega)
          · have g4 : ¬ (n : Int) < 4 := by omega
            have g5 : (0 : Int) < i := by omega
            have HNX := Lib.hid (HX2.out (by omega))
            have HQ0 := Lib.hid (show q + 1 = i + 1 - g0 by have := hq.out; omega)
            have hq4 : q ≤ 4 := by have := hq.out; omega
            replace hg1 := Lib.hid hg1
            replace h4 := Lib.hid h4
            clear HX2
            have hO2 := (HO.out.below HLZ.out).below (Low.alloc (w8.setCell ⟨g, 2, none⟩ (.int .i64 now)) (.cells #[.int .i64 xn, .int .i64 xf, .int .i64 now, .slice xA xk xc] 57))
            have hsz8 : (w8.setCell ⟨g, 2, none⟩ (.int .i64 now)).heap.size = w8.heap.size := by simp
            have hE2 : Es verE ((w8.setCell ⟨g, 2, none⟩ (.int .i64 now)).alloc (.cells #[.int .i64 xn, .int .i64 xf, .int .i64 now, .slice xA xk xc] 57)) (w8.heap.size + 1) (some ⟨w8.heap.size, 0, none⟩) 1 [⟨xn, xf, now, xA, xk, xc, xt⟩] := by
              rw [← hsz8]
              exact Es.one_ (E := verE) (w8.setCell ⟨g, 2, none⟩ (.int .i64 now)) 57 ⟨xn, xf, now, xA, xk, xc, xt⟩ trivial (Nat.lt_succ_self _)
            have HL2 := Lib.hid ((hL.out.trans HLZ.out).trans (Low.alloc (w8.setCell ⟨g, 2, none⟩ (.int .i64 now)) (.cells #[.int .i64 xn, .int .i64 xf, .int .i64 now, .slice xA xk xc] 57)))
            have hbs : w.heap.size ≤ ((w8.setCell ⟨g, 2, none⟩ (.int .i64 now)).alloc (.cells #[.int .i64 xn, .int .i64 xf, .int .i64 now, .slice xA xk xc] 57)).heap.size := HL2.out.size
            go_wp2_with (first
              | (refine wpList_load_vH rfl 57 (.tmp 14) rfl g rfl _ [.int .i64 xn, .int .i64 xf, .int .i64 now, .slice xA xk xc] HGZ.out _ Try.underlying57 rfl rver_size ?_)
              | (at_builtin; refine wpList_append_es (E := verE) rfl (.tmp 47) (.tmp 49) _ rfl w.heap.size 57 j0 _ 48 Try.underlying26 RI.out RZ0.out RZ1.out rfl RZ2.out D q e _ rfl hO2 _ 1 1 (w8.heap.size + 1) [⟨xn, xf, now, xA, xk, xc, xt⟩] rfl hE2 (by omega) (by omega) hbs ?_; intro A9 c9 w9 hown hgr hob; refine Hid.out ?_))
            refine Lib.hid ?_
            have HL9 := Lib.hid (show Low w w9 from Below.grown HL2.out hgr HL2.out.size (fun z hz => (hO2.lt z hz).1))
            rw [← HNX.out] at hown
            have HO9 := Lib.hid hown
            clear hown hgr hob hO2 hE2 HL2 hbs hsz8
            go_wp2_with fail
            go_roundw
            case rel =>
              first
              | exact ⟨i + 1, q + 1, A9, c9, by omega, HQ0, by go_num, rfl, HO9, HL9⟩
              | ((repeat apply Exists.intro); exact ⟨⟨i + 1, q + 1, A9, c9, by omega, HQ0, by go_num, rfl, HO9, HL9⟩, rfl⟩)
            case measure => simp [intOf]; omega
        · have g3 : ¬ (i : Int) = (n : Int) - 1 := by omega
          have HX2 := Lib.hid (fun hg => (HX.out hg).trans (by rw [if_neg hla2]))
          have HGZ := Lib.hid HG
          have HLZ := HL8
          replace hla2 := Lib.hid hla2
          clear HG HX
          rcases hcg with ⟨h4, hg0⟩ | ⟨h4, hg1, hi0⟩ | ⟨h4, hg1, hi1⟩
          · have g4 : (n : Int) < 4 := by omega
            have HNX := Lib.hid (HX2.out (by omega))
            have HQ0 := Lib.hid (show q + 1 = i + 1 - g0 by have := hq.out; omega)
            have hq4 : q ≤ 4 := by have := hq.out; omega
            replace hg0 := Lib.hid hg0
            clear HX2
            have hO2 := (HO.out.below HLZ.out).below (Low.alloc w8 (.cells #[.int .i64 xn, .int .i64 xf, .int .i64 xu, .slice xA xk xc] 57))
            have hsz8 : w8.heap.size = w8.heap.size := by simp
            have hE2 : Es verE (w8.alloc (.cells #[.int .i64 xn, .int .i64 xf, .int .i64 xu, .slice xA xk xc] 57)) (w8.heap.size + 1) (some ⟨w8.heap.size, 0, none⟩) 1 [⟨xn, xf, xu, xA, xk, xc, xt⟩] := by
              rw [← hsz8]
              exact Es.one_ (E := verE) w8 57 ⟨xn, xf, xu, xA, xk, xc, xt⟩ trivial (Nat.lt_succ_self _)
            have HL2 := Lib.hid ((hL.out.trans HLZ.out).trans (Low.alloc w8 (.cells #[.int .i64 xn, .int .i64 xf, .int .i64 xu, .slice xA xk xc] 57)))
            have hbs : w.heap.size ≤ (w8.alloc (.cells #[.int .i64 xn, .int .i64 xf, .int .i64 xu, .slice xA xk xc] 57)).heap.size := HL2.out.size
            go_wp2_with (first
              | (refine wpList_load_vH rfl 57 (.tmp 14) rfl g rfl _ [.int .i64 xn, .int .i64 xf, .int .i64 xu, .slice xA xk xc] HGZ.out _ Try.underlying57 rfl rver_size ?_)
              | (at_builtin; refine wpList_append_es (E := verE) rfl (.tmp 47) (.tmp 49) _ rfl w.heap.size 57 j0 _ 48 Try.underlying26 RI.out RZ0.out RZ1.out rfl RZ2.out D q e _ rfl hO2 _ 1 1 (w8.heap.size + 1) [⟨xn, xf, xu, xA, xk, xc, xt⟩] rfl hE2 (by omega) (by omega) hbs ?_; intro A9 c9 w9 hown hgr hob; refine Hid.out ?_))
            refine Lib.hid ?_
            have HL9 := Lib.hid (show Low w w9 from Below.grown HL2.out hgr HL2.out.size (fun z hz => (hO2.lt z hz).1))
            rw [← HNX.out] at hown
            have HO9 := Lib.hid hown
            clear hown hgr hob hO2 hE2 HL2 hbs hsz8
            go_wp2_with fail
            go_roundw
            case rel =>
              first
              | exact ⟨i + 1, q + 1, A9, c9, by omega, HQ0, by go_num, rfl, HO9, HL9⟩
              | ((repeat apply Exists.intro); exact ⟨⟨i + 1, q + 1, A9, c9, by omega, HQ0, by go_num, rfl, HO9, HL9⟩, rfl⟩)
            case measure => simp [intOf]; omega
          · have g4 : ¬ (n : Int) < 4 := by omega
            have g5 : ¬ (0 : Int) < i := by omega
            have HNX := Lib.hid (show outD now g0 (i + 1) l = outD now g0 i l by rw [hi0, hg1, outD_zero]; exact outD_skip now l)
            have HQ0 := Lib.hid (show q = i + 1 - g0 by have := hq.out; omega)
            replace hi0 := Lib.hid hi0
            replace hg1 := Lib.hid hg1
            replace h4 := Lib.hid h4
            clear HX2
            go_wp2_with fail
            go_roundw
            case rel =>
              first
              | exact ⟨i + 1, q, D, e, by omega, HQ0, by go_num, rfl, Lib.hid (by rw [HNX.out]; exact HO.out.below HLZ.out), Lib.hid (hL.out.trans HLZ.out)⟩
              | ((repeat apply Exists.intro); exact ⟨⟨i + 1, q, D, e, by omega, HQ0, by go_num, rfl, Lib.hid (by rw [HNX.out]; exact HO.out.below HLZ.out), Lib.hid (hL.out.trans HLZ.out)⟩, rfl⟩)
            case measure => simp [intOf]; omega
          · have g4 : ¬ (n : Int) < 4 := by omega
            have g5 : (0 : Int) < i := by omega
            have HNX := Lib.hid (HX2.out (by omega))
            have HQ0 := Lib.hid (show q + 1 = i + 1 - g0 by have := hq.out; omega)
            have hq4 : q ≤ 4 := by have := hq.out; omega
            replace hg1 := Lib.hid hg1
            replace h4 := Lib.hid h4
            clear HX2
            have hO2 := (HO.out.below HLZ.out).below (Low.alloc w8 (.cells #[.int .i64 xn, .int .i64 xf, .int .i64 xu, .slice xA xk xc] 57))
            have hsz8 : w8.heap.size = w8.heap.size := by simp
            have hE2 : Es verE (w8.alloc (.cells #[.int .i64 xn, .int .i64 xf, .int .i64 xu, .slice xA xk xc] 57)) (w8.heap.size + 1) (some ⟨w8.heap.size, 0, none⟩) 1 [⟨xn, xf, xu, xA, xk, xc, xt⟩] := by
              rw [← hsz8]
              exact Es.one_ (E := verE) w8 57 ⟨xn, xf, xu, xA, xk, xc, xt⟩ trivial (Nat.lt_succ_self _)
            have HL2 := Lib.hid ((hL.out.trans HLZ.out).trans (Low.alloc w8 (.cells #[.int .i64 xn, .int .i64 xf, .int .i64 xu, .slice xA xk xc] 57)))
            have hbs : w.heap.size ≤ (w8.alloc (.cells #[.int .i64 xn, .int .i64 xf, .int .i64 xu, .slice xA xk xc] 57)).heap.size := HL2.out.size
            go_wp2_with (first
              | (refine wpList_load_vH rfl 57 (.tmp 14) rfl g rfl _ [.int .i64 xn, .int .i64 xf, .int .i64 xu, .slice xA xk xc] HGZ.out _ Try.underlying57 rfl rver_size ?_)
              | (at_builtin; refine wpList_append_es (E := verE) rfl (.tmp 47) (.tmp 49) _ rfl w.heap.size 57 j0 _ 48 Try.underlying26 RI.out RZ0.out RZ1.out rfl RZ2.out D q e _ rfl hO2 _ 1 1 (w8.heap.size + 1) [⟨xn, xf, xu, xA, xk, xc, xt⟩] rfl hE2 (by omega) (by omega) hbs ?_; intro A9 c9 w9 hown hgr hob; refine Hid.out ?_))
            refine Lib.hid ?_
            have HL9 := Lib.hid (show Low w w9 from Below.grown HL2.out hgr HL2.out.size (fun z hz => (hO2.lt z hz).1))
            rw [← HNX.out] at hown
            have HO9 := Lib.hid hown
            clear hown hgr hob hO2 hE2 HL2 hbs hsz8
            go_wp2_with fail
            go_roundw
            case rel =>
              first
              | exact ⟨i + 1, q + 1, A9, c9, by omega, HQ0, by go_num, rfl, HO9, HL9⟩
              | ((repeat apply Exists.intro); exact ⟨⟨i + 1, q + 1, A9, c9, by omega, HQ0, by go_num, rfl, HO9, HL9⟩, rfl⟩)
            case measure => simp [intOf]; omega
      · obtain rfl : i = n := by omega
        have hlt2 : ¬ (i : Int) < i := by omega
        have HOA := Lib.hid (show outD now g0 i l = (overD now l).drop g0 by rw [← HL.out]; exact outD_all now g0 l)
        have HMEM := Lib.hid (overD_mem now l)
        have HDL := Lib.hid (show ((overD now l).drop g0).length = i - g0 by rw [List.length_drop, overD_len, HL.out])
        rw [HOA.out] at HO
        have HOLT := Lib.hid HO.out.lt
        have hq5 : q ≤ 4 := by have := hq.out; omega
        have hO1 := OwnN.fresh (base := wr.heap.size) wr 3 (Nat.le_refl _)
        have hl1 := Low.alloc wr (.cells #[] 3)
        have hT1 := HT.out.below (hL.out.trans hl1)
        have hwz : w.heap.size ≤ wr.heap.size := hL.out.size
        have hO5 := Lib.hid (HO.out.below hl1)
        have hl5 := Lib.hid (hL.out.trans hl1)
        replace hq := Lib.hid hq.out
        clear HOA
        go_wp2_with (at_builtin; refine wpList_append_ns rfl (.tmp 55) (.tmp 56) _ rfl wr.heap.size 3 i0 Try.underlying27 HI.out HZ0.out HZ1.out HZ2.out _ 0 0 [] rfl hO1 B k d w.heap.size t rfl hT1 (by omega) (by simp) ?_; intro A4 c4 w4 hown hgr hob; refine Hid.out ?_)
        refine Lib.hid ?_
        have hl4 : Low wr w4 := Below.grown hl1 hgr (by simp) (fun j hj => (hO1.lt j hj).1)
        rw [List.nil_append, Nat.zero_add] at hown
        have HN4 := Lib.hid (hown.bs (Nat.le_refl _))
        have HF4 := Lib.hid hown.fromI
        have hC4 := hown.cap
        have hO6 := HO.out.below hl4
        have hl6 := hL.out.trans hl4
        clear hgr hob hown hO1 hT1 hl1 hO5 hl5 HO
        have hO7 := hO6.below (Low.alloc w4 (.cells #[.int .i64 (last + 1), .int .i64 now, .int .i64 (-1), .slice A4 k c4] 57))
        have hE7 : Es verE (w4.alloc (.cells #[.int .i64 (last + 1), .int .i64 now, .int .i64 (-1), .slice A4 k c4] 57)) (w4.heap.size + 1) (some ⟨w4.heap.size, 0, none⟩) 1 [⟨last + 1, now, -1, A4, k, c4, t⟩] := Es.one_ (E := verE) w4 57 ⟨last + 1, now, -1, A4, k, c4, t⟩ trivial (Nat.lt_succ_self _)
        have HL7 := Lib.hid (hl6.trans (Low.alloc w4 (.cells #[.int .i64 (last + 1), .int .i64 now, .int .i64 (-1), .slice A4 k c4] 57)))
        have hbs : w.heap.size ≤ (w4.alloc (.cells #[.int .i64 (last + 1), .int .i64 now, .int .i64 (-1), .slice A4 k c4] 57)).heap.size := HL7.out.size
        have HL4 := Lib.hid hl4
        clear hO6 hl6 hl4
        go_wp2_with (at_builtin; refine wpList_append_es (E := verE) rfl (.tmp 51) (.tmp 59) _ rfl w.heap.size 57 j0 _ 48 Try.underlying26 RI.out RZ0.out RZ1.out rfl RZ2.out D q e _ rfl hO7 _ 1 1 (w4.heap.size + 1) [⟨last + 1, now, -1, A4, k, c4, t⟩] rfl hE7 (by omega) (by omega) hbs ?_; intro A9 c9 w9 hown hgr hob; refine Hid.out ?_)
        refine Lib.hid ?_
        have HL9 : Low w w9 := Below.grown HL7.out hgr hbs (fun z hz => (hO7.lt z hz).1)
        have hN9 : Ns w9 w9.heap.size A4 k t := by
          have h1 := HN4.out.below (Low.alloc w4 (.cells #[.int .i64 (last + 1), .int .i64 now, .int .i64 (-1), .slice A4 k c4] 57))
          refine (h1.upperI HF4.out fun p hp1 hp2 => World.cell?_of_block (hgr.block p.block (by simp; omega) fun e => ?_)).more (by have := hgr.size; simp at this; omega)
          have := (HOLT.out p.block e.symm).2
          omega
        clear hgr hob hO7 hE7 HL7
        go_wp2_with fail
        (try simp only [Exit.inBlock, Exit.then]); refine bodyPost_ret (results_tmp3 rfl _ _ _) rfl ?_
        have hcap := hown.cap
        refine ⟨A9, q + 1, c9, _, rfl, HPV.out A4 k c4, hcap.1, fun F hU hVF => ?_, HL9⟩
        refine ⟨hown.lies (Nat.le_refl _), fun h0 b o e hF => ?_, fun x hx => ?_⟩
        · obtain ⟨b', p', e', hlo⟩ := hown.from_ h0
          rw [e'] at e
          injection e with e
          injection e with e1 _ _
          have := hU b hF
          omega
        · rcases List.mem_append.1 hx with hx | hx
          · obtain ⟨y, hy, eA, ek, ec, et⟩ := HMEM.out x (List.mem_of_mem_drop hx)
            have h2 := hVF.tab y hy
            rw [eA, ek, ec, et]
            exact ⟨h2.1.below' HL9 HL9.size, h2.2⟩
          · obtain rfl := List.mem_singleton.1 hx
            exact ⟨hN9, offA.fresh (fun z hz => Nat.lt_of_lt_of_le (hU z hz) hwz) HF4.out, hC4.1, hkm⟩
  · have HN := Lib.hid (show nextH (l.map Vd.v) last now t = l.map Vd.v by unfold nextH; rw [if_neg he])
    have HLA := Lib.hid (show lastH last (mayH (l.map Vd.v) now) = last by unfold lastH; rw [if_neg he])
    rw [HN.out, HLA.out]
    clear hv hr ht
    generalize mayH (l.map Vd.v) now = er at *
    go_enter Try.func10, Try.ntmps10
    go_wp2_with fail
    refine HM.out.mono ?_
    rintro e w1 ⟨rfl, rfl⟩
    have he2 : (er != 0) = true := by simpa using he
    go_wp2_with fail
    (try simp only [Exit.inBlock, Exit.then]); refine bodyPost_ret (results_tmp3 rfl _ _ _) rfl ?_
    exact ⟨A, n, c, l, rfl, rfl, hnc, fun F _ h => h, Low.refl _⟩
end Go.Proofs.Ytedldebomoplmaa
