/- Stage 21: pairs in memory; the document's Hash, Find, Put, Del. Condition: at most 1000 pairs. -/
import Derived.Test.YtipggnjjmpacmaaSlA
import Derived.Test.YtipggnjjmpacmaaEsC
import Derived.Test.YtipggnjjmpacmaaNumG
import Derived.BigQuiet
set_option maxRecDepth 100000
namespace Go.Proofs.Ytipggnjjmpacmaa
open Go.RowKit
set_option linter.unusedVariables false

/-- pairs of numbers in a slice -/
def prE : Elt (Int × Int) := ⟨fun x => [.int .i64 x.1, .int .i64 x.2], fun x => i64ok x.1 ∧ i64ok x.2, 2, by decide, fun _ _ => rfl, fun a u hu => by
  rcases List.mem_cons.1 hu with rfl | hu
  · rfl
  · obtain rfl := List.mem_singleton.1 hu
    rfl, (0, 0), by unfold i64ok; simp⟩
theorem pr_cells {w : World} {B b o n : Nat} {l : List (Int × Int)} (h : Es prE w B (some ⟨b, o, none⟩) n l) {i : Nat} (hi : i < n) :
    w.cell? ⟨b, o + i * 2, none⟩ = some (.int .i64 (l.getD i (0, 0)).1) ∧ w.cell? ⟨b, o + i * 2 + 1, none⟩ = some (.int .i64 (l.getD i (0, 0)).2) := by
  have h1 := (h.at_ hi).2
  exact ⟨h1 0 _ rfl, h1 1 _ rfl⟩
theorem getD_pr (l : List (Int × Int)) (i : Nat) (h : i < l.length) : l.getD i (0, 0) = l[i] := by simp [List.getD, h]
/-- the place of a key -/
def findS (l : List (Int × Int)) (k : Int) : Int := if hasS l k = true then (l.findIdx fun p => p.1 == k : Nat) else -1
theorem findS_at {l : List (Int × Int)} {k : Int} {i : Nat} (hi : i < l.length) (hb : ∀ j, j < i → (l.getD j (0, 0)).1 ≠ k) (h : (l.getD i (0, 0)).1 = k) : findS l k = i := by
  have h1 : hasS l k = true := hasS_iff.2 ⟨(l.getD i (0, 0)).2, by rw [← h, getD_pr l i hi]; exact List.getElem_mem hi⟩
  have h2 : (l.findIdx fun p => p.1 == k) = i := by
    rw [List.findIdx_eq hi]
    refine ⟨by rw [← getD_pr l i hi]; simpa using h, fun j hj => ?_⟩
    have := hb j hj
    rw [getD_pr l j (by omega)] at this
    simpa using this
  unfold findS
  rw [if_pos h1, h2]
theorem findS_none {l : List (Int × Int)} {k : Int} (hb : ∀ j, j < l.length → (l.getD j (0, 0)).1 ≠ k) : findS l k = -1 ∧ hasS l k = false := by
  have h1 : hasS l k = false := by
    cases hc : hasS l k
    · rfl
    · obtain ⟨v, hv⟩ := hasS_iff.1 hc
      obtain ⟨j, hj, e⟩ := List.mem_iff_getElem.1 hv
      have := hb j hj
      rw [getD_pr l j hj, e] at this
      exact absurd rfl this
  exact ⟨by unfold findS; rw [h1, if_neg (by simp)], h1⟩
theorem findS_has {l : List (Int × Int)} {k : Int} (h : hasS l k = true) : ∃ i : Nat, i < l.length ∧ findS l k = i ∧ (l.getD i (0, 0)).1 = k ∧ ∀ j, j < i → (l.getD j (0, 0)).1 ≠ k := by
  have hi : (l.findIdx fun p => p.1 == k) < l.length := List.findIdx_lt_length_of_exists (by
    obtain ⟨v, hv⟩ := hasS_iff.1 h
    exact ⟨_, hv, by simp⟩)
  refine ⟨_, hi, by unfold findS; rw [if_pos h], ?_, fun j hj => ?_⟩
  · rw [getD_pr _ _ hi]
    simpa using List.findIdx_getElem (w := hi)
  · have := List.not_of_lt_findIdx hj
    rw [getD_pr l j (by omega)]
    simpa using this

set_option maxHeartbeats 1600000 in
theorem rfind_any (A : Option Addr) (n c : Nat) (l : List (Int × Int)) (k : Int) (w : World) (hn : n ≤ 1000) (hb : Es prE w w.heap.size A n l) :
    Calls Try.prog 14 #[.slice A n c, .int .i64 k] w fun e w' => e = .returned (.int .i64 (findS l k)) ∧ w = w' := by
  have HL := Lib.hid hb.len
  have HAT := Lib.hid (fun i (h : i < n) h1 h2 => @findS_at l k i (by rw [HL.out]; exact h) h1 h2)
  have HNO := Lib.hid (fun h => (@findS_none l k (by rw [HL.out]; exact h)).1)
  go_enter Try.func14, Try.ntmps14
  go_wp2_with fail
  go_loop [5] (fun v => ∃ i : Nat, i ≤ n ∧ v = .int .i64 i ∧ Hid (∀ j, j < i → (l.getD j (0, 0)).1 ≠ k)) (fun v => n - (intOf v).toNat)
  case atStart => exact ⟨0, by omega, rfl, Lib.hid fun j h => by omega⟩
  case round =>
    obtain ⟨i, hi, rfl, HB⟩ := hrel
    by_cases hlt : i < n
    · obtain ⟨b, o, rfl, _, _⟩ := hb.mem (by omega)
      have hlt2 : (i : Int) < n := by omega
      obtain ⟨c0, _⟩ := pr_cells hb hlt
      have HAT2 := Lib.hid (HAT.out i hlt HB.out)
      clear HAT
      generalize hx : (l.getD i (0, 0)).1 = x at *
      replace hx := Lib.hid hx
      by_cases hk : x = k
      · have HE := Lib.hid (HAT2.out hk)
        subst hk
        clear HAT2
        go_wp2_with fail
        go_ret
        exact ⟨by rw [HE.out]; rfl, rfl⟩
      · have hk2 : (x == k) = false := by simpa using hk
        have HB2 := Lib.hid (show ∀ j, j < i + 1 → (l.getD j (0, 0)).1 ≠ k from fun j hj => by
          by_cases e : j = i
          · rw [e, hx.out]; exact hk
          · exact HB.out j (by omega))
        clear HAT2 HB hk
        go_wp2_with fail
        go_round
        case rel => exact ⟨i + 1, by omega, by go_num, HB2⟩
        case measure => simp [intOf]; omega
    · obtain rfl : i = n := by omega
      have HE := Lib.hid (HNO.out HB.out)
      have hlt2 : ¬ (i : Int) < i := by omega
      go_wp2_with fail
      go_ret
      exact ⟨by rw [HE.out]; rfl, rfl⟩

/-- a list of pairs handed back: the one that came in, or in memory of the call's own -/
def GivesPr (w : World) (A : Option Addr) (n : Nat) (l : List (Int × Int)) (b : Bool) (e : Ending) (w' : World) : Prop := ∃ A' c', e = .returned (.tuple #[.slice A' l.length c', .bool b]) ∧ l.length ≤ c' ∧ Es prE w' w'.heap.size A' l.length l ∧ ((A' = A ∧ l.length = n) ∨ EFrom w.heap.size A' l.length) ∧ Low w w'
theorem info_pr : (Try.prog.info? 39).map (fun i => (i.zero, i.size, i.bytes)) = some (some (.agg #[.int .i64 0, .int .i64 0]), 2, 16) := by kernel_rfl
theorem info_pr_parts : ∃ i, Try.prog.info? 39 = some i ∧ i.zero = some (.agg #[.int .i64 0, .int .i64 0]) ∧ i.size = 2 ∧ i.bytes = 16 := by
  have h := info_pr
  cases hi : Try.prog.info? 39 with
  | none => simp [hi] at h
  | some i =>
    simp [hi] at h
    exact ⟨i, rfl, h.1, h.2.1, h.2.2⟩
theorem size_pr (u : World) : (Go.sizeOf 39).run Try.prog u = .ok prE.k u := by kernel_rfl

set_option maxHeartbeats 3200000 in
theorem rdel_any (A : Option Addr) (n c : Nat) (l : List (Int × Int)) (k : Int) (w : World) (hn : n ≤ 1000) (hnc : n ≤ c) (hb : Es prE w w.heap.size A n l) (hkeys : (l.map (·.1)).Nodup) :
    Calls Try.prog 12 #[.slice A n c, .int .i64 k] w (GivesPr w A n (outS l k) (hasS l k)) := by
  have HL := Lib.hid hb.len
  have HF := Lib.hid (rfind_any A n c l k w hn hb)
  cases hc : hasS l k
  · have HE := Lib.hid (show findS l k = -1 by unfold findS; rw [hc, if_neg (by simp)])
    have HO := Lib.hid (outS_no hc)
    go_enter Try.func12, Try.ntmps12
    go_wp2_with fail
    refine HF.out.mono ?_
    rintro e w2 ⟨rfl, rfl⟩
    rw [HE.out]
    go_wp2_with fail
    go_ret2
    exact ⟨A, c, by rw [HO.out, HL.out]; rfl, by rw [HO.out, HL.out]; exact hnc, by rw [HO.out, HL.out]; exact hb, .inl ⟨rfl, by rw [HO.out, HL.out]⟩, Low.refl _⟩
  · obtain ⟨i, hi, HE, hk, _⟩ := findS_has hc
    have hin : i < n := by rw [← HL.out]; exact hi
    have HOU := Lib.hid (outS_at hkeys hi hk)
    replace HE := Lib.hid HE
    obtain ⟨A1, hU, hEU⟩ := es_upto Try.underlying27 size_pr A n c i i l hb hnc rfl (by omega)
    obtain ⟨A5, c5, hF, hEF⟩ := es_from Try.underlying27 size_pr A n c (i + 1) ((i : Int) + 1) l hb hnc (by omega) (by omega)
    have HU := Lib.hid hU
    have HFR := Lib.hid hF
    have hO2 := OwnE.freshG prE (base := w.heap.size) w 39 (Nat.le_refl _)
    have hl3 := Low.alloc w (.cells #[] 39)
    have hEU3 := hEU.below hl3
    have HEF := Lib.hid hEF
    have HL3 := Lib.hid hl3
    obtain ⟨i0, ji, jz0, jz1, jz2⟩ := info_pr_parts
    have HI := Lib.hid ji
    have HZ0 := Lib.hid jz0
    have HZ1 := Lib.hid jz1
    have HZ2 := Lib.hid jz2
    clear hU hF hEU hEF hl3 hb hc ji jz0 jz1 jz2 hkeys hi hk
    have hi0 : ¬ (i : Int) < 0 := by omega
    go_enter Try.func12, Try.ntmps12
    go_wp2_with fail
    refine HF.out.mono ?_
    rintro e w2 ⟨rfl, rfl⟩
    rw [HE.out]
    go_wp2_with (first
      | (refine slc_wp rfl _ _ _ _ _ rfl _ (HU.out _) ?_)
      | (at_builtin; refine wpList_append_es (E := prE) rfl (.tmp 14) (.tmp 17) _ rfl w.heap.size 39 i0 _ 16 Try.underlying27 HI.out HZ0.out HZ1.out rfl HZ2.out _ 0 0 [] rfl hO2 A1 i c w.heap.size (l.take i) rfl hEU3 (by omega) (by omega) (by simp) ?_; intro A4 c4 w4 hown hgr hob; refine Hid.out ?_))
    refine Lib.hid ?_
    have hl4 : Low w w4 := HL3.out.grown hgr (by simp) (fun j hj => (hO2.lt j hj).1)
    rw [List.nil_append, Nat.zero_add] at hown
    try rw [Nat.zero_add]
    have hE7 := HEF.out.below hl4
    have HO7 := Lib.hid hown
    have hz4 := hl4.size
    clear hgr hob hown hO2 hEU3 HL3 HU HEF
    go_wp2_with (first
      | (refine slc_wp rfl _ _ _ _ _ rfl _ (HFR.out _) ?_)
      | (at_builtin; refine wpList_append_es (E := prE) rfl (.tmp 19) (.tmp 23) _ rfl w.heap.size 39 i0 _ 16 Try.underlying27 HI.out HZ0.out HZ1.out rfl HZ2.out _ i c4 (l.take i) rfl HO7.out A5 (n - (i + 1)) c5 w.heap.size (l.drop (i + 1)) rfl hE7 (by omega) (by omega) hz4 ?_; intro A8 c8 w8 hown hgr hob; refine Hid.out ?_))
    refine Lib.hid ?_
    have hl8 : Low w w8 := hl4.grown hgr hz4 (fun j hj => (HO7.out.lt j hj).1)
    have hln : i + (n - (i + 1)) = (outS l k).length := by rw [HOU.out, List.length_append, List.length_take, List.length_drop, HL.out]; omega
    rw [← HOU.out, hln] at hown
    have HO8 := Lib.hid hown
    have HLN := Lib.hid hln
    have HL8 := Lib.hid hl8
    clear hgr hob hown HO7 hE7 hl4 hz4 hl8 hln
    go_wp2_with fail
    go_ret2
    exact ⟨A8, c8, by rw [← HLN.out]; rfl, HO8.out.cap.1, HO8.out.lies (Nat.le_refl _), .inr HO8.out.from_, HL8.out⟩

theorem flat_setPr : ∀ (l : List (Int × Int)) (i : Nat) (v : Int), (prE.flat l).set (i * 2 + 1) (.int .i64 v) = prE.flat (l.set i ((l.getD i (0, 0)).1, v))
  | [], i, v => by simp [Elt.flat]
  | p :: r, 0, v => by simp [Elt.flat, prE]
  | p :: r, i + 1, v => by
    have ih := flat_setPr r i v
    rw [Elt.flat_cons, List.set_cons_succ, Elt.flat_cons, show (i + 1) * 2 + 1 = (i * 2 + 1) + 1 + 1 by omega]
    show ([Value.int .i64 p.1, Value.int .i64 p.2] ++ prE.flat r).set _ _ = [Value.int .i64 p.1, Value.int .i64 p.2] ++ _
    simp only [List.cons_append, List.nil_append, List.set_cons_succ]
    rw [ih]
    rfl
theorem setS_at : ∀ {l : List (Int × Int)} {k v : Int} {i : Nat}, (l.map (·.1)).Nodup → i < l.length → (l.getD i (0, 0)).1 = k → setS l k v = l.set i (k, v)
  | [], _, _, _, _, h, _ => absurd h (by simp)
  | p :: r, k, v, 0, hn, _, h => by
    rw [List.map_cons, List.nodup_cons] at hn
    have e : p.1 = k := h
    have hr : hasS r k = false := by
      cases hc : hasS r k
      · rfl
      · obtain ⟨x, hx⟩ := hasS_iff.1 hc
        exact absurd (List.mem_map.2 ⟨_, hx, e.symm⟩) hn.1
    show (if p.1 = k then (k, v) else p) :: setS r k v = _
    rw [if_pos e, setS_no hr]
    rfl
  | p :: r, k, v, i + 1, hn, hi, h => by
    rw [List.map_cons, List.nodup_cons] at hn
    have h : (r.getD i (0, 0)).1 = k := h
    have hi : i < r.length := by simpa using hi
    have e : ¬ p.1 = k := fun e => hn.1 (List.mem_map.2 ⟨r.getD i (0, 0), by simp [List.getD, hi], by rw [h, e]⟩)
    show (if p.1 = k then (k, v) else p) :: setS r k v = _
    rw [if_neg e, setS_at hn.2 hi h]
    rfl
theorem OwnE.setPr {t : TypeId} {w : World} {base g n c : Nat} {l : List (Int × Int)} (h : OwnE prE t w base (some ⟨g, 0, none⟩) n c l) (i : Nat) (v : Int) (hv : i64ok v) :
    OwnE prE t (w.setCell ⟨g, i * 2 + 1, none⟩ (.int .i64 v)) base (some ⟨g, 0, none⟩) n c (l.set i ((l.getD i (0, 0)).1, v)) :=
  ⟨by rw [← flat_setPr]; exact (World.ownsRow.stored h.1 _ _).1, fun p hp => by
    rcases List.mem_or_eq_of_mem_set hp with hp | rfl
    · exact h.2.1 p hp
    · exact ⟨(Elt.all_getD (E := prE) h.2.1 i).1, hv⟩, by rw [List.length_set]; exact h.2.2⟩

set_option maxHeartbeats 3200000 in
theorem rputSl_any (A : Option Addr) (n c m : Nat) (l : List (Int × Int)) (k v : Int) (w : World) (hn : n ≤ 1000) (hnc : n ≤ c) (hk : i64ok k) (hv : i64ok v) (hb : Es prE w w.heap.size A n l) (hkeys : (l.map (·.1)).Nodup) :
    Calls Try.prog 10 #[.slice A n c, .int .i64 m, .int .i64 k, .int .i64 v] w (GivesPr w A n (putSl l m k v) (mayS l m k)) := by
  have HL := Lib.hid hb.len
  have HF := Lib.hid (fun u hu => rfind_any A n c l k u hn hu)
  have hO2 := OwnE.freshG prE (base := w.heap.size) w 39 (Nat.le_refl _)
  have hl3 := Low.alloc w (.cells #[] 39)
  have hE3 := hb.below hl3
  have HB := Lib.hid hb
  have HL3 := Lib.hid hl3
  obtain ⟨i0, ji, jz0, jz1, jz2⟩ := info_pr_parts
  have HI := Lib.hid ji
  have HZ0 := Lib.hid jz0
  have HZ1 := Lib.hid jz1
  have HZ2 := Lib.hid jz2
  have HVK := Lib.hid (And.intro hk hv)
  clear hl3 hb ji jz0 jz1 jz2 hk hv
  go_enter Try.func10, Try.ntmps10
  go_wp2_with (at_builtin; refine wpList_append_es (E := prE) rfl (.tmp 12) (.tmp 13) _ rfl w.heap.size 39 i0 _ 16 Try.underlying27 HI.out HZ0.out HZ1.out rfl HZ2.out _ 0 0 [] rfl hO2 A n c w.heap.size l rfl hE3 (by omega) (by omega) (by simp) ?_; intro A4 c4 w4 hown hgr hob; refine Hid.out ?_)
  refine Lib.hid ?_
  have hl4 : Low w w4 := HL3.out.grown hgr (by simp) (fun j hj => (hO2.lt j hj).1)
  rw [List.nil_append, Nat.zero_add] at hown
  try rw [Nat.zero_add]
  have HO4 := Lib.hid hown
  have HL4 := Lib.hid hl4
  have HB4 := Lib.hid (HB.out.below' hl4 hl4.size)
  have hz4 := hl4.size
  clear hgr hob hown hO2 hE3 HL3 hl4
  go_wp2_with fail
  refine (HF.out w4 HB4.out).mono ?_
  rintro e w5 ⟨rfl, rfl⟩
  cases hc : hasS l k
  · have HE := Lib.hid (show findS l k = -1 by unfold findS; rw [hc, if_neg (by simp)])
    rw [HE.out]
    by_cases hm : n < m
    · have HMY := Lib.hid (show mayS l m k = true by unfold mayS; rw [hc, HL.out]; simpa using hm)
      have HPU := Lib.hid (show putSl l m k v = l ++ [(k, v)] by unfold putSl; rw [hc, if_neg (by simp), HL.out, if_pos hm])
      have hE2 : Es prE (w4.alloc (.cells #[.int .i64 k, .int .i64 v] 39)) (w4.heap.size + 1) (some ⟨w4.heap.size, 0, none⟩) 1 [(k, v)] := Es.one_ (E := prE) w4 39 (k, v) HVK.out (Nat.lt_succ_self _)
      have hO5 := HO4.out.below (Low.alloc w4 (.cells #[.int .i64 k, .int .i64 v] 39))
      have HL5 := Lib.hid (HL4.out.trans (Low.alloc w4 (.cells #[.int .i64 k, .int .i64 v] 39)))
      have hz5 : w.heap.size ≤ (w4.alloc (.cells #[.int .i64 k, .int .i64 v] 39)).heap.size := by simp; omega
      have hm2 : ¬ (m : Int) ≤ n := by omega
      clear hc
      go_wp2_with (at_builtin; refine wpList_append_es (E := prE) rfl (.tmp 31) (.tmp 35) _ rfl w.heap.size 39 i0 _ 16 Try.underlying27 HI.out HZ0.out HZ1.out rfl HZ2.out _ n c4 l rfl hO5 _ 1 1 (w4.heap.size + 1) [(k, v)] rfl hE2 (by omega) (by omega) hz5 ?_; intro A8 c8 w8 hown hgr hob; refine Hid.out ?_)
      refine Lib.hid ?_
      have hl8 : Low w w8 := HL5.out.grown hgr hz5 (fun j hj => (hO5.lt j hj).1)
      have hln : n + 1 = (putSl l m k v).length := by rw [HPU.out, List.length_append, HL.out]; rfl
      rw [← HPU.out, hln] at hown
      have HO8 := Lib.hid hown
      have HLN := Lib.hid hln
      have HL8 := Lib.hid hl8
      clear hgr hob hown hO5 hE2 hz5 hl8 hln
      go_wp2_with fail
      go_ret2
      exact ⟨A8, c8, by rw [← HLN.out, HMY.out]; rfl, HO8.out.cap.1, HO8.out.lies (Nat.le_refl _), .inr HO8.out.from_, HL8.out⟩
    · have HMY := Lib.hid (show mayS l m k = false by unfold mayS; rw [hc, HL.out]; simpa using hm)
      have HPU := Lib.hid (putSl_not (v := v) HMY.out)
      have hm2 : (m : Int) ≤ n := by omega
      clear hc
      go_wp2_with fail
      go_ret2
      exact ⟨A, c, by rw [HPU.out, HMY.out, HL.out]; rfl, by rw [HPU.out, HL.out]; exact hnc, by rw [HPU.out, HL.out]; exact HB4.out, .inl ⟨rfl, by rw [HPU.out, HL.out]⟩, HL4.out⟩
  · obtain ⟨i, hi, HE, hki, _⟩ := findS_has hc
    have hin : i < n := by rw [← HL.out]; exact hi
    have HMY := Lib.hid (show mayS l m k = true by unfold mayS; rw [hc]; rfl)
    have HPU := Lib.hid (show putSl l m k v = l.set i ((l.getD i (0, 0)).1, v) by unfold putSl; rw [if_pos hc, setS_at hkeys hi hki, hki])
    rw [HE]
    clear HE hc hi hki hkeys
    obtain ⟨g, cap, hv, hbg, hgl⟩ := World.ownsRow.form HO4.out.1 (by omega)
    injection hv with hv _ hcap
    subst hv hcap
    have hbc := (pr_cells (HO4.out.lies (Nat.le_refl _)) hin).2
    rw [Nat.zero_add] at hbc
    have hfz := World.ownsRow.frozenAt HO4.out.1 (i * 2 + 1)
    have HS := Lib.hid (HO4.out.setPr i v HVK.out.2)
    rw [← HPU.out] at HS
    have HLS := Lib.hid (HL4.out.setCell (p := ⟨g, i * 2 + 1, none⟩) hbg (.int .i64 v))
    have HLN := Lib.hid (show n = (putSl l m k v).length by rw [HPU.out, List.length_set, HL.out])
    have hi0 : ¬ (i : Int) < 0 := by omega
    generalize (l.getD i (0, 0)).2 = x at hbc
    go_wp2_with fail
    go_ret2
    rw [HLN.out] at HS
    exact ⟨some ⟨g, 0, none⟩, c4, by rw [← HLN.out, HMY.out]; rfl, HS.out.cap.1, HS.out.lies (Nat.le_refl _), .inr HS.out.from_, HLS.out⟩
end Go.Proofs.Ytipggnjjmpacmaa
