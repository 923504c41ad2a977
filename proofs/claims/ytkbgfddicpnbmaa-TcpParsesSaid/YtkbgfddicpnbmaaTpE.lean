/- What topt.Can answers: whether options can be. Condition: at most 2^47 options. -/
import Derived.Test.YtkbgfddicpnbmaaTpD
namespace Go.Proofs.Ytkbgfddicpnbmaa
open Go.RowKit
set_option linter.unusedVariables false
attribute [local go_sem] Oper.semAt_some

theorem BlkV.kept {W W' : World} {t : TypeId} {g B : Nat} {vs : List Value} {row : Option Nat} (h : BlkV W t g vs) (hg : W.grownBy W' row) (hr : ∀ r, row = some r → B ≤ r ∧ ∃ o : Obj, W.heap[r]? = some o ∧ o.isCells = false) : BlkV W' t g vs :=
  (grownBy_keeps_cells hg (fun r e => (hr r e).2) h rfl).trans h
theorem chk_drop {l : List Ob} {i : Nat} (h : i < l.length) : chkO (l.drop i) = if (l.getD i zeroB).1 < 1 ∨ 255 < (l.getD i zeroB).1 then 2 else if fitsO (l.getD i zeroB).1 (l.getD i zeroB).2.length = false then 5 else chkO (l.drop (i + 1)) := by
  have e : l.drop i = l.getD i zeroB :: l.drop (i + 1) := by
    rw [List.drop_eq_getElem_cons h]
    simp [List.getD, h]
  rw [e]
  rfl

/-- between two parts: how much room is left -/
def CanI (w : World) (q : Nat) (ps : List (List Int)) (j : Nat) (W : World) : Prop :=
  (BlkV W 3 q [.int .i64 (40 - ((upto ps j).length : Int))] ∧ BlkV W 29 w.heap.size [.int .i64 0] ∧ (upto ps j).length ≤ 40) ∧ Below w.heap.size w W
/-- there is no room left -/
def CanX (w : World) (ps : List (List Int)) (W : World) : Prop := (BlkV W 29 w.heap.size [.int .i64 8] ∧ 40 < ps.flatten.length) ∧ Below w.heap.size w W
theorem results_can (tmps : Array Value) (w : World) (g : Nat) (x : Int) (hp : tmps.getD 2 undef = .pointer (some ⟨g, 0, none⟩)) (hb : BlkV w 29 g [.int .i64 x]) : (results Try.f51 tmps).run Try.prog w = .ok (.int .i64 x) w := by
  have hc : w.cell? ⟨g, 0, none⟩ = some (.int .i64 x) := by rw [hb.cell 0]; rfl
  have hp' : tmps[2]?.getD undef = .pointer (some ⟨g, 0, none⟩) := by simpa using hp
  simp [results, Try.results51, go_sem, hp', hc]

set_option maxRecDepth 100000 in
set_option maxHeartbeats 2000000 in
theorem tcan_any (A : Option Addr) (n c : Nat) (os : List Od) (w : World) (hn : n ≤ 140737488355328) (ho : Os w w.heap.size A n os) :
    Calls Try.prog 51 #[.slice A n c] w fun e w' => e = .returned (.int .i64 (canO (os.map Od.v))) ∧ Below w.heap.size w w' := by
  refine (callsIn_wide (n := 5)).1 ?_
  have h1 : 1 ≤ 5 := by omega
  have hlen := ho.len
  have HR := Lib.hid (BlkV.new w 29 [.int .i64 0])
  have HB0 := Lib.hid (Low.alloc w (.cells #[.int .i64 0] 29))
  refine callsIn_of_wp_marks Try.func51 rfl trivial ?_ rfl
  simp only [Try.ntmps51, List.size_toArray, List.length_cons, List.length_nil, Nat.reduceAdd, Nat.reduceSub, Array.replicate_succ, Array.replicate_zero, List.push_toArray, List.append_toArray, List.nil_append, List.cons_append]
  gi_wp2
  gi_loopw [9] (fun i wr => ∃ m : Nat, m ≤ n ∧ i = .int .i64 m ∧ Low (w.alloc (.cells #[.int .i64 0] 29)) wr ∧ Hid (chkO (os.map Od.v) = chkO ((os.map Od.v).drop m))) (fun i _ => n - (intOf i).toNat)
  case atStart => exact ⟨0, Nat.zero_le _, rfl, Low.refl _, Lib.hid rfl⟩
  case round =>
    obtain ⟨m, hm, rfl, hB, HC⟩ := hrel
    have hr : BlkV wr 29 w.heap.size [.int .i64 0] := HR.out.below hB (by simp)
    have hBw : Below w.heap.size w wr := HB0.out.trans (hB.mono (by simp))
    by_cases hmn : m < n
    · obtain ⟨b, p, rfl, hbl, hc⟩ := ho.mem (by omega)
      obtain ⟨q1, q2⟩ := hc m hmn
      have hok := ho.at_ hmn
      have hcd := chk_drop (l := os.map Od.v) (i := m) (by simp; omega)
      rw [getD_v, ← HC.out] at hcd
      obtain ⟨o, hoo⟩ : ∃ o, o = os.getD m zeroO := ⟨_, rfl⟩
      rw [← hoo] at q1 q2 hok hcd
      have c1 := (hBw.cell (p := ⟨b, p + m * 2, none⟩) hbl).trans q1
      have c2 := (hBw.cell (p := ⟨b, p + m * 2 + 1, none⟩) hbl).trans q2
      clear q1 q2 hc hoo
      obtain ⟨kk, DA, dn, dc, d⟩ := o
      obtain ⟨hk, hdn, hbs⟩ := hok
      dsimp only at c1 c2 hk hdn hbs
      replace hcd : chkO (os.map Od.v) = if kk < 1 ∨ 255 < kk then 2 else if fitsO kk dn = false then 5 else chkO ((os.map Od.v).drop (m + 1)) := by rw [← hbs.len]; exact hcd
      have hl1 := Low.alloc wr (.cells #[.int .i64 kk, .slice DA dn dc] 85)
      have hr1 : BlkV (wr.alloc (.cells #[.int .i64 kk, .slice DA dn dc] 85)) 29 w.heap.size [.int .i64 0] := hr.below hl1 hr.lt
      have HR1 := Lib.hid hr1
      have HL1 := Lib.hid hl1
      have HCD := Lib.hid hcd
      have HO := Lib.hid ho
      have HBW := Lib.hid hBw
      have HBB := Lib.hid hB
      have e0 : (wr.alloc (.cells #[.int .i64 kk, .slice DA dn dc] 85)).cell? ⟨w.heap.size, 0, none⟩ = some (.int .i64 0) := by rw [hr1.cell 0]; rfl
      have f0 := hr1.frozen 0
      clear hcd ho hr hr1 hl1 hBw hB hbs
      unfold i64ok at hk
      by_cases hk1 : kk < 1
      · gi_wp2
        refine ⟨_, results_can _ _ w.heap.size 2 rfl (HR1.out.set_ 0 _), ?_, (HBW.out.trans (HL1.out.mono HBW.out.size)).setCell (p := ⟨w.heap.size, 0, none⟩) (Nat.le_refl _) _⟩
        have e2 := HCD.out
        rw [if_pos (.inl hk1)] at e2
        rw [show canO (os.map Od.v) = 2 by unfold canO; rw [e2]; rfl]
      · by_cases hk2 : 255 < kk
        · gi_wp2
          refine ⟨_, results_can _ _ w.heap.size 2 rfl (HR1.out.set_ 0 _), ?_, (HBW.out.trans (HL1.out.mono HBW.out.size)).setCell (p := ⟨w.heap.size, 0, none⟩) (Nat.le_refl _) _⟩
          have e2 := HCD.out
          rw [if_pos (.inr hk2)] at e2
          rw [show canO (os.map Od.v) = 2 by unfold canO; rw [e2]; rfl]
        · gi_wp2
          refine ⟨trivial, (callsIn_wide.2 (fits_any kk dn _ hk (by omega))).mono ?_⟩
          rintro e w1 ⟨rfl, hl2⟩
          have hlow := Low.trans HL1.out hl2
          have hr2 : BlkV w1 29 w.heap.size [.int .i64 0] := HR1.out.below hl2 HR1.out.lt
          have HR2 := Lib.hid hr2
          have g0 : w1.cell? ⟨w.heap.size, 0, none⟩ = some (.int .i64 0) := by rw [hr2.cell 0]; rfl
          have g1 := hr2.frozen 0
          have HLW := Lib.hid hlow
          have e2 := HCD.out
          rw [if_neg (by omega)] at e2
          cases hf : fitsO kk dn
          · rw [hf, if_pos rfl] at e2
            have HE := Lib.hid e2
            clear e2 hlow hr2 hl2 e0 f0 c1 c2 hf
            gi_wp2
            refine ⟨_, results_can _ _ w.heap.size 5 rfl (HR2.out.set_ 0 _), ?_, (HBW.out.trans (HLW.out.mono HBW.out.size)).setCell (p := ⟨w.heap.size, 0, none⟩) (Nat.le_refl _) _⟩
            rw [show canO (os.map Od.v) = 5 by unfold canO; rw [HE.out]; rfl]
          · rw [hf, if_neg (by simp)] at e2
            have HE := Lib.hid e2
            clear e2 hlow hr2 hl2 e0 f0 c1 c2 hf
            gi_wp2
            go_roundw
            case rel => exact ⟨m + 1, by omega, by go_num, HBB.out.trans HLW.out, HE⟩
            case measure => simp [intOf]; omega
    · obtain rfl : m = n := by omega
      have hchk : chkO (os.map Od.v) = 0 := by rw [HC.out, List.drop_of_length_le (by simp [hlen])]; rfl
      have HCHK := Lib.hid hchk
      have HT := Lib.hid (show (partsO (os.map Od.v)).flatten.length = sumO (os.map Od.v) by rw [partsO_flat]; exact flat_len hchk)
      have ho3 : Os wr w.heap.size A m os := ho.below hBw
      have HRR := Lib.hid hr
      clear hr hchk HC hlen
      gi_wp2
      refine ⟨trivial, (callsIn_wide.2 (laid_any A m c _)).mono ?_⟩
      rintro e w' ⟨rfl, rfl⟩
      gi_wp2
      try simp only [World.size_alloc]
      have hl1 := Low.alloc wr (.cells #[.int .i64 40] 3)
      have hl2 := Low.trans hl1 (Low.alloc (wr.alloc (.cells #[.int .i64 40] 3)) (.cells #[.slice A m c] 23))
      have hq : BlkV ((wr.alloc (.cells #[.int .i64 40] 3)).alloc (.cells #[.slice A m c] 23)) 3 wr.heap.size [.int .i64 40] := (BlkV.new wr 3 [.int .i64 40]).alloc _
      have hbn : BlkV ((wr.alloc (.cells #[.int .i64 40] 3)).alloc (.cells #[.slice A m c] 23)) 23 (wr.heap.size + 1) [.slice A m c] := BlkV.second _
      have hrw : w.heap.size < wr.heap.size := HRR.out.lt
      have hBe := hBw.trans (hl2.mono hBw.size)
      have ho4 := ho3.below (hl2.mono (Nat.le_of_lt hrw))
      have hr4 : BlkV _ _ _ _ := HRR.out.below hl2 hrw
      have hsz : ((wr.alloc (.cells #[.int .i64 40] 3)).alloc (.cells #[.slice A m c] 23)).heap.size = wr.heap.size + 2 := by simp
      obtain ⟨wl, hwl⟩ : ∃ wl, wl = (wr.alloc (.cells #[.int .i64 40] 3)).alloc (.cells #[.slice A m c] 23) := ⟨_, rfl⟩
      rw [← hwl] at hq hbn hBe ho4 hr4 hsz ⊢
      clear hwl hl1 hl2 ho3 HRR
      refine wpIn_parts_q (n0 := w.heap.size) (t := 85) (parts := partsO (os.map Od.v)) rfl (fun args u => by go_simp)
        (laid1_any 4 (by omega) A m c os (wr.heap.size + 1) w.heap.size wl hn (by rw [hbn.cell 0]; rfl) (by omega) ho4) (Low.refl _) (by omega) 31 6 rfl
        (CanI w wr.heap.size (partsO (os.map Od.v))) (CanX w (partsO (os.map Od.v)))
        (fun s A B row hs hg hr => ⟨⟨hs.1.1.kept hg hr, hs.1.2.1.kept hg hr, hs.1.2.2⟩, ownFrom_below (β := Unit) (Nat.le_refl _) (by omega) () A B row hs.2 hg hr⟩)
        (fun s A B row hs hg hr => ⟨⟨hs.1.1.kept hg hr, hs.1.2⟩, ownFrom_below (β := Unit) (Nat.le_refl _) (by omega) () A B row hs.2 hg hr⟩)
        ⟨⟨hq, hr4, by simp [upto]⟩, hBe⟩ ?assign ?body ?done ?stop
      case assign =>
        intro l v W K hK
        gi_wp2
        exact hK
      case body =>
        rintro l j X xn xc W ⟨⟨h1, h2, h3⟩, h4⟩ hj hxn hbs
        have c1 : W.cell? ⟨wr.heap.size, 0, none⟩ = some (.int .i64 (40 - ((upto (partsO (os.map Od.v)) j).length : Int))) := by rw [h1.cell 0]; rfl
        have f1 := h1.frozen 0
        have c2 : W.cell? ⟨w.heap.size, 0, none⟩ = some (.int .i64 0) := by rw [h2.cell 0]; rfl
        have f2 := h2.frozen 0
        have hu := upto_succ (partsO (os.map Od.v)) j hj
        have hul : (upto (partsO (os.map Od.v)) (j + 1)).length = (upto (partsO (os.map Od.v)) j).length + xn := by rw [hu, List.length_append, hbs.len]
        have hule := upto_le (partsO (os.map Od.v)) (j + 1)
        have HU := Lib.hid hul
        have HL := Lib.hid hule
        rw [hul] at hule
        obtain ⟨s, hs⟩ : ∃ s, s = (upto (partsO (os.map Od.v)) j).length := ⟨_, rfl⟩
        rw [← hs] at c1 h1 h3 hule
        have HS := Lib.hid hs
        clear hu hul hbs hs
        simp only [List.setIfInBounds_toArray, List.set_cons_succ, List.set_cons_zero]
        by_cases hgt : (40 : Int) - s < xn
        · gi_wp2
          exact ⟨KeepsOthers.setCell _ _ _, ⟨h2.set_ 0 _, by omega⟩, h4.setCell (p := ⟨w.heap.size, 0, none⟩) (Nat.le_refl _) _⟩
        · gi_wp2
          refine ⟨KeepsOthers.setCell _ _ _, (Below.refl _ W).setCell (p := ⟨wr.heap.size, 0, none⟩) (Nat.le_of_lt hrw) _, KeepsT.setCell h1 (by decide), ⟨?_, h2.far (p := ⟨wr.heap.size, 0, none⟩) (Nat.ne_of_lt hrw) _, ?_⟩, h4.setCell (p := ⟨wr.heap.size, 0, none⟩) (Nat.le_of_lt hrw) _⟩
          · rw [HU.out, ← HS.out, show (40 : Int) - ((s + xn : Nat) : Int) = 40 - s - xn by omega]
            exact h1.set_ 0 _
          · rw [HU.out, ← HS.out]
            omega
      case done =>
        rintro D W hD ⟨⟨h1, h2, h3⟩, h4⟩ hK
        have c2 : W.cell? ⟨w.heap.size, 0, none⟩ = some (.int .i64 0) := by rw [h2.cell 0]; rfl
        have f2 := h2.frozen 0
        rw [upto_all _ _ (Nat.le_refl _), HT.out] at h3
        gi_wp2
        have hK2 := (KeepsOthers.setCell W ⟨w.heap.size, 0, none⟩ (.int .i64 0)).same D _ hK rfl
        have h5 : BlkV _ _ _ [.int .i64 0] := BlkV.kept (B := 0) (h2.set_ 0 (.int .i64 0)) (grownBy_putObj' _ D (.deferred none)) (fun r e => by cases e; exact ⟨Nat.zero_le _, _, hK2, rfl⟩)
        refine ⟨by simp, .inl ⟨_, _, rfl, run_takeDeferred hK2, ?_⟩⟩
        refine ⟨_, results_can _ _ w.heap.size 0 rfl h5, ?_, (h4.setCell (p := ⟨w.heap.size, 0, none⟩) (Nat.le_refl _) _).trans (belowK_b (w := wl) (by omega) _ D _ _ hD hK2 rfl rfl)⟩
        rw [show canO (os.map Od.v) = 0 by unfold canO; rw [if_pos HCHK.out, if_neg (by omega)]]
      case stop =>
        rintro D W hD ⟨⟨h1, h2⟩, h3⟩ hK
        rw [HT.out] at h2
        gi_wp2
        have h5 : BlkV _ _ _ [.int .i64 8] := BlkV.kept (B := 0) h1 (grownBy_putObj' _ D (.deferred none)) (fun r e => by cases e; exact ⟨Nat.zero_le _, _, hK, rfl⟩)
        refine ⟨by simp, .inl ⟨_, _, rfl, run_takeDeferred hK, ?_⟩⟩
        refine ⟨_, results_can _ _ w.heap.size 8 rfl h5, ?_, h3.trans (belowK_b (w := wl) (by omega) _ D _ _ hD hK rfl rfl)⟩
        rw [show canO (os.map Od.v) = 8 by unfold canO; rw [if_pos HCHK.out, if_pos h2]]
end Go.Proofs.Ytkbgfddicpnbmaa
