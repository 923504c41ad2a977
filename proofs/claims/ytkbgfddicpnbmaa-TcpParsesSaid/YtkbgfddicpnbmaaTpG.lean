/- What topt.Put answers: the bytes of options. Condition: at most 2^47 options. -/
import Derived.Test.YtkbgfddicpnbmaaTpE
namespace Go.Proofs.Ytkbgfddicpnbmaa
open Go.RowKit
set_option linter.unusedVariables false
attribute [local go_sem] Oper.semAt_some

section
variable {t : TypeId} {w w' : World} {base n c : Nat} {A : Option Addr} {ys : List Int}
theorem OwnB.far (h : OwnB t w base A n c ys) {p : Addr} (hp : p.block < base) (u : Value) : OwnB t (w.setCell p u) base A n c ys := by
  refine ⟨⟨h.1.1, ?_⟩, h.2⟩
  rcases h.1.2 with e | ⟨g, cap, cur, e, hbg, hg, r⟩
  · exact .inl e
  · exact .inr ⟨g, cap, cur, e, hbg, (Below.heap_setCell w p u g (by omega)).trans hg, r⟩
theorem OwnB.kept {row : Option Nat} (h : OwnB t w base A n c ys) (hg : w.grownBy w' row) (hr : ∀ r, row = some r → ∃ o : Obj, w.heap[r]? = some o ∧ o.isCells = false) : OwnB t w' base A n c ys := by
  refine ⟨⟨h.1.1, ?_⟩, h.2⟩
  rcases h.1.2 with e | ⟨g, cap, cur, e, hbg, hgg, r⟩
  · exact .inl e
  · exact .inr ⟨g, cap, cur, e, hbg, (grownBy_keeps_cells hg hr hgg rfl).trans hgg, r⟩
theorem OwnB.row (h : OwnB t w base A n c ys) : ∀ k, (Value.slice A n c).ownBlock = some k → ∃ cs z, w.heap[k]? = some (.cells cs t z) := fun k hk => by
  rcases h.1.2 with ⟨e, _⟩ | ⟨g, cap, cur, e, hbg, hg, r⟩
  · injection e with e1
    subst e1
    cases hk
  · injection e with e1
    subst e1
    have : g = k := by simpa [Value.ownBlock] using hk
    subst this
    exact ⟨_, _, hg⟩
end

/-- a list of bytes is handed back, and a number -/
def GivesBE (w : World) (ys : List Int) (x : Int) (e : Ending) (w' : World) : Prop :=
  ∃ A c, e = .returned (.tuple #[.slice A ys.length c, .int .i64 x]) ∧ Bs w' w'.heap.size A ys.length ys ∧ (ys.length ≤ c ∧ c ≤ 9223372036854775807) ∧ Below w.heap.size w w'
/-- between two parts: the bytes so far -/
def PutI (w : World) (q : Nat) (ps : List (List Int)) (j : Nat) (W : World) : Prop :=
  (∃ A c, BlkV W 24 q [.slice A (upto ps j).length c] ∧ OwnB 5 W (q + 1) A (upto ps j).length c (upto ps j)) ∧ Below w.heap.size w W
/-- how long the slice in a variable is -/
def lenAt (q : Nat) (w : World) : Nat := match w.cell? ⟨q, 0, none⟩ with
  | some (.slice _ n _) => n
  | _ => 0
theorem lenAt_eq {w : World} {q n c : Nat} {A : Option Addr} (h : w.cell? ⟨q, 0, none⟩ = some (.slice A n c)) : lenAt q w = n := by unfold lenAt; rw [h]

set_option maxRecDepth 100000 in
set_option maxHeartbeats 2000000 in
theorem tput_any (A : Option Addr) (n c : Nat) (os : List Od) (w : World) (hn : n ≤ 140737488355328) (ho : Os w w.heap.size A n os) :
    Calls Try.prog 24 #[.slice A n c] w (GivesBE w (putO (os.map Od.v)) (canO (os.map Od.v))) := by
  obtain ⟨i0, hi, hz0, hz1, hz2⟩ := info_parts info5
  refine (callsIn_wide (n := 5)).1 ?_
  have h15 : 1 ≤ 5 := by omega
  refine callsIn_of_wp_marks Try.func24 rfl trivial ?_ rfl
  simp only [Try.ntmps24, List.size_toArray, List.length_cons, List.length_nil, Nat.reduceAdd, Nat.reduceSub, Array.replicate_succ, Array.replicate_zero, List.push_toArray, List.append_toArray, List.nil_append, List.cons_append]
  gi_wp2
  refine ⟨trivial, (callsIn_wide.2 (tcan_any A n c os w hn ho)).mono ?_⟩
  rintro e wc ⟨rfl, hBc⟩
  have hcr := canO_err (os.map Od.v)
  by_cases hcan : canO (os.map Od.v) = 0
  · obtain ⟨hchk, hsum⟩ := canO_zero hcan
    have HT := Lib.hid (show (partsO (os.map Od.v)).flatten.length = sumO (os.map Od.v) by rw [partsO_flat]; exact flat_len hchk)
    have HCAN := Lib.hid hcan
    have HF := Lib.hid (partsO_flat (os.map Od.v))
    rw [hcan]
    have ho1 := ho.below hBc
    have hsc := hBc.size
    clear hcr hcan hchk ho
    gi_wp2
    refine ⟨trivial, (callsIn_wide.2 (laid_any A n c _)).mono ?_⟩
    rintro e w' ⟨rfl, rfl⟩
    gi_wp2
    try simp only [World.size_alloc]
    have hl1 := Low.alloc wc (.cells #[.slice none 0 0] 24)
    have hl2 := Low.trans hl1 (Low.alloc (wc.alloc (.cells #[.slice none 0 0] 24)) (.cells #[.slice A n c] 23))
    have hq : BlkV ((wc.alloc (.cells #[.slice none 0 0] 24)).alloc (.cells #[.slice A n c] 23)) 24 wc.heap.size [.slice none 0 0] := (BlkV.new wc 24 [.slice none 0 0]).alloc _
    have hbn : BlkV ((wc.alloc (.cells #[.slice none 0 0] 24)).alloc (.cells #[.slice A n c] 23)) 23 (wc.heap.size + 1) [.slice A n c] := BlkV.second _
    have hBe := hBc.trans (hl2.mono hsc)
    have ho4 := ho1.below (hl2.mono hsc)
    have hsz : ((wc.alloc (.cells #[.slice none 0 0] 24)).alloc (.cells #[.slice A n c] 23)).heap.size = wc.heap.size + 2 := by simp
    obtain ⟨wl, hwl⟩ : ∃ wl, wl = (wc.alloc (.cells #[.slice none 0 0] 24)).alloc (.cells #[.slice A n c] 23) := ⟨_, rfl⟩
    rw [← hwl] at hq hbn hBe ho4 hsz ⊢
    clear hwl hl1 hl2 ho1
    refine wpIn_parts_q (n0 := w.heap.size) (t := 85) (parts := partsO (os.map Od.v)) rfl (fun args u => by go_simp)
      (laid1_any 4 (by omega) A n c os (wc.heap.size + 1) w.heap.size wl hn (by rw [hbn.cell 0]; rfl) (by omega) ho4) (Low.refl _) (by omega) 14 6 rfl
      (PutI w wc.heap.size (partsO (os.map Od.v))) (fun _ => False)
      (fun s X Y row hs hg hr => by
        obtain ⟨⟨A', c', h1, h2⟩, h3⟩ := hs
        exact ⟨⟨A', c', h1.kept hg hr, h2.kept hg fun r e => (hr r e).2⟩, ownFrom_below (β := Unit) (Nat.le_refl _) (by omega) () X Y row h3 hg hr⟩)
      (fun s X Y row hs hg hr => hs)
      ⟨⟨none, 0, by simpa [upto] using hq, by simpa [upto] using OwnB.none_ 5 wl (wc.heap.size + 1)⟩, hBe⟩ ?assign ?body ?done ?stop
    case assign =>
      intro l v W K hK
      gi_wp2
      exact hK
    case body =>
      rintro l j X xn xc W ⟨⟨A', c', h1, h2⟩, h4⟩ hj hxn hbs
      have c1 : W.cell? ⟨wc.heap.size, 0, none⟩ = some (.slice A' (upto (partsO (os.map Od.v)) j).length c') := by rw [h1.cell 0]; rfl
      have hu := upto_succ (partsO (os.map Od.v)) j hj
      have hul : (upto (partsO (os.map Od.v)) (j + 1)).length = (upto (partsO (os.map Od.v)) j).length + xn := by rw [hu, List.length_append, hbs.len]
      have hule := upto_le (partsO (os.map Od.v)) (j + 1)
      rw [hul, HT.out] at hule
      have HU := Lib.hid hu
      have HUL := Lib.hid hul
      obtain ⟨ys, hys⟩ : ∃ ys, ys = upto (partsO (os.map Od.v)) j := ⟨_, rfl⟩
      rw [← hys] at c1 h1 h2 hule
      have HS := Lib.hid hys
      have hbsz := h4.size
      have hqlt := h1.lt
      have hne : some wc.heap.size ≠ (Value.slice A' ys.length c').ownBlock := fun e => by have := (h2.lt _ e.symm).1; omega
      have hrow := h2.row
      obtain ⟨s, hs⟩ : ∃ s, s = ys.length := ⟨_, rfl⟩
      rw [← hs] at c1 h1 h2 hule hne hrow
      have HSS := Lib.hid hs
      clear hu hul hys hs
      simp only [List.setIfInBounds_toArray, List.set_cons_succ, List.set_cons_zero]
      gi_wp2_with (gi_at_builtin; refine wpListIn_append_bs rfl _ _ 24 rfl (wc.heap.size + 1) 5 i0 Try.underlying24 hi hz0 hz1 hz2 A' s c' ys rfl h2 X xn xc W.heap.size ((partsO (os.map Od.v)).getD j []) rfl hbs (by omega) (by omega) ?_; intro A2 c2 w1 hown hgr hob; refine Hid.out ?_)
      refine Lib.hid ?_
      have hq1 : BlkV w1 24 wc.heap.size [.slice A' s c'] := (hgr.block _ hqlt hne).trans h1
      have g1 : w1.cell? ⟨wc.heap.size, 0, none⟩ = some (.slice A' s c') := by rw [hq1.cell 0]; rfl
      have g2 := hq1.frozen 0
      have hqw1 := hq1.lt
      have HOWN := Lib.hid hown
      have HGR := Lib.hid hgr
      have HQ := Lib.hid hq1
      have HB1 := Lib.hid h1
      clear hown hgr hob c1 h1 hbs hq1
      gi_wp2
      have hkb : KeepsT 85 W w1 := KeepsT.grown HGR.out fun r e cs z h => by
        obtain ⟨cs', z', h'⟩ := hrow r e
        rw [h'] at h
        injection h with h
        injection h with _ h _
        exact absurd h (by decide)
      have hb1 : Below w.heap.size W w1 := (Below.refl _ W).grown HGR.out hbsz fun r e => by have := (h2.lt r e).1; omega
      refine ⟨(KeepsOthers.of_grownBy HGR.out fun r o e h => by
          obtain ⟨cs', z', h'⟩ := hrow r e
          rw [h'] at h
          injection h with h
          subst h
          rfl).trans (KeepsOthers.setCell _ _ _), hb1.setCell (p := ⟨wc.heap.size, 0, none⟩) hsc _, hkb.trans (KeepsT.setCell HQ.out (by decide)), ⟨A2, c2, ?_, ?_⟩, (h4.trans hb1).setCell (p := ⟨wc.heap.size, 0, none⟩) hsc _⟩
      · rw [HUL.out, ← HS.out, ← HSS.out]
        exact HQ.out.set_ 0 _
      · rw [HUL.out, HU.out, ← HS.out, ← HSS.out]
        exact HOWN.out.far (p := ⟨wc.heap.size, 0, none⟩) (by show wc.heap.size < wc.heap.size + 1; omega) _
    case done =>
      rintro D W hD ⟨⟨A', c', h1, h2⟩, h4⟩ hK
      rw [upto_all _ _ (Nat.le_refl _), HF.out] at h1 h2
      have hTl : (flatO (os.map Od.v)).length ≤ 40 := by rw [← HF.out, HT.out]; exact hsum
      have HPUT := Lib.hid (show putO (os.map Od.v) = padO (flatO (os.map Od.v)) by unfold putO; rw [if_pos HCAN.out])
      obtain ⟨fs, hfs⟩ : ∃ fs, fs = flatO (os.map Od.v) := ⟨_, rfl⟩
      rw [← hfs] at h1 h2 hTl
      have HFS := Lib.hid hfs
      clear hfs
      obtain ⟨s, hs⟩ : ∃ s, s = fs.length := ⟨_, rfl⟩
      rw [← hs] at h1 h2 hTl
      have HSS := Lib.hid hs
      clear hs hsum ho4 hq hbn hBe
      gi_wp2
      gi_loopw [18] (fun _ wr => ∃ A' c' k, BlkV wr 24 wc.heap.size [.slice A' (s + k) c'] ∧ OwnB 5 wr (wc.heap.size + 1) A' (s + k) c' (fs ++ List.replicate k 0) ∧ k ≤ padN s ∧ Below w.heap.size w wr ∧ wr.heap[D]? = some (.deferred (some []))) (fun _ wr => s + padN s - lenAt wc.heap.size wr)
      case atStart => exact ⟨A', c', 0, h1, by simpa using h2, Nat.zero_le _, h4, hK⟩
      case round =>
        clear h1 h2 h4 hK
        obtain ⟨A', c', k, h1, h2, hk, h4, hK⟩ := hrel
        have c1 : wr.cell? ⟨wc.heap.size, 0, none⟩ = some (.slice A' (s + k) c') := by rw [h1.cell 0]; rfl
        have hp := pad_lt s
        obtain ⟨r, hr⟩ : ∃ r, r = s + k := ⟨_, rfl⟩
        rw [← hr] at h1 h2 c1
        have HR := Lib.hid hr
        have hr40 : r ≤ 43 := by omega
        clear hr
        by_cases hm : r % 4 = 0
        · have hm2 : (r : Int) % 4 = 0 := by omega
          have HM := Lib.hid hm
          clear hm
          gi_wp2
          have hkp : k = padN s := by
            have := HM.out
            rw [HR.out] at this
            unfold padN at hk ⊢
            omega
          have h5 := h2.kept (grownBy_putObj' wr D (.deferred none)) fun x e => by cases e; exact ⟨_, hK, rfl⟩
          have hlen := h2.len
          refine ⟨by simp, .inl ⟨_, _, rfl, run_takeDeferred hK, ?_⟩⟩
          refine ⟨_, results_tmp2 rfl _ _ _, ?_⟩
          have hpo : fs ++ List.replicate k 0 = putO (os.map Od.v) := by
            rw [HPUT.out, ← HFS.out]
            unfold padO
            rw [← HSS.out, ← hkp]
          rw [hpo] at h5 hlen
          rw [HCAN.out]
          have hcap := h5.cap
          refine ⟨A', c', ?_, ?_, ⟨by rw [hlen]; exact hcap.1, by have := hcap.2; simp only [maxLen] at this; omega⟩, h4.trans (belowK_b (w := wl) (by omega) _ D _ _ hD hK rfl rfl)⟩
          · rw [hlen]; rfl
          · rw [hlen]; exact h5.bs (Nat.le_refl _)
        · have hm2 : ((r : Int) % 4 != 0) = true := by simp; omega
          have hqlt := h1.lt
          have hbsz := h4.size
          have hl3 := Low.alloc wr (.cells #[.int .u8 0] 5)
          have hown0 := h2.below hl3
          have hsrc : Bs (wr.alloc (.cells #[.int .u8 0] 5)) (wr.heap.size + 1) (some ⟨wr.heap.size, 0, none⟩) 1 [0] := (Blk.new wr 5 [0]).bs (.cons (by omega) (by omega) .nil) (by omega) rfl
          have hq3 : BlkV (wr.alloc (.cells #[.int .u8 0] 5)) 24 wc.heap.size [.slice A' r c'] := h1.below hl3 hqlt
          have hK3 := (Below.block hl3 D (Array.getElem?_eq_some_iff.1 hK).1).trans hK
          have hb3 := h4.trans (hl3.mono hbsz)
          have hne : some wc.heap.size ≠ (Value.slice A' r c').ownBlock := fun e => by have := (h2.lt _ e.symm).1; omega
          have hrow := hown0.row
          have hlt0 := hown0.lt
          have hk1 : k + 1 ≤ padN s := by
            have := HR.out
            unfold padN at hk ⊢
            omega
          have HLEN := Lib.hid (lenAt_eq c1)
          have HB3 := Lib.hid hb3
          have HQ3 := Lib.hid hq3
          have HK3 := Lib.hid hK3
          clear hl3 hb3 hq3 hK3 h1 h2 hm
          gi_wp2_with (gi_at_builtin; refine wpListIn_append_bs rfl _ _ 24 rfl (wc.heap.size + 1) 5 i0 Try.underlying24 hi hz0 hz1 hz2 A' r c' (fs ++ List.replicate k 0) rfl hown0 _ 1 1 (wr.heap.size + 1) [0] rfl hsrc (by omega) (by simp only [World.size_alloc]; omega) ?_; intro A2 c2 w1 hown hgr hob; refine Hid.out ?_)
          refine Lib.hid ?_
          have hq1 : BlkV w1 24 wc.heap.size [.slice A' r c'] := (hgr.block _ (by simp; omega) hne).trans HQ3.out
          have g1 : w1.cell? ⟨wc.heap.size, 0, none⟩ = some (.slice A' r c') := by rw [hq1.cell 0]; rfl
          have g2 := hq1.frozen 0
          have hko : KeepsOthers _ w1 := KeepsOthers.of_grownBy hgr fun x o e h => by
            obtain ⟨cs', z', h'⟩ := hrow x e
            rw [h'] at h
            injection h with h
            subst h
            rfl
          have hK4 := hko.same D _ HK3.out rfl
          have hb4 : Below w.heap.size w w1 := HB3.out.grown hgr (by simp only [World.size_alloc]; omega) fun x e => by have := (hlt0 x e).1; omega
          have HOWN := Lib.hid hown
          have HQ := Lib.hid hq1
          have HK4 := Lib.hid hK4
          have HB4 := Lib.hid hb4
          clear hown hgr hob c1 hq1 hko hK4 hb4 hsrc hown0 hK h4
          gi_wp2
          go_roundw
          case rel =>
            refine ⟨A2, c2, k + 1, ?_, ?_, hk1, HB4.out.setCell (p := ⟨wc.heap.size, 0, none⟩) hsc _, (KeepsOthers.setCell _ _ _).same D _ HK4.out rfl⟩
            · rw [← Nat.add_assoc, ← HR.out]
              exact HQ.out.set_ 0 _
            · rw [← Nat.add_assoc, ← HR.out, List.replicate_succ', ← List.append_assoc]
              exact HOWN.out.far (p := ⟨wc.heap.size, 0, none⟩) (by show wc.heap.size < wc.heap.size + 1; omega) _
          case measure =>
            rw [HLEN.out, lenAt_eq (A := A2) (n := r + 1) (c := c2) (by rw [(HQ.out.set_ 0 (.slice A2 (r + 1) c2)).cell 0]; rfl)]
            have := HR.out
            omega
    case stop =>
      rintro D W hD h hK
      exact h.elim
  · have HP := Lib.hid (show putO (os.map Od.v) = [] by unfold putO; rw [if_neg hcan])
    generalize canO (os.map Od.v) = x at *
    have hx : (x != 0) = true := by simpa using hcan
    gi_wp2
    refine ⟨_, results_tmp2 rfl _ _ _, ?_⟩
    rw [HP.out]
    exact ⟨none, 0, rfl, Bs.nil _ _ _, ⟨Nat.le_refl _, by omega⟩, hBc⟩
end Go.Proofs.Ytkbgfddicpnbmaa
