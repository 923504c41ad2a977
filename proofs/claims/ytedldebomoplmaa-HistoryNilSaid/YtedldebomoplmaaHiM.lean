/- Stage 20: the program's own history: all of its versions, copied. Conditions: at most 1000 versions, tables of at most 2^44 numbers. -/
import Derived.Test.YtedldebomoplmaaHiL
set_option maxRecDepth 100000
namespace Go.Proofs.Ytedldebomoplmaa
open Go.RowKit
set_option linter.unusedVariables false
attribute [local go_sem] Oper.semAt_some

/-- what is appended has a table of its own -/
def TabsH (w : World) (base : Nat) (l : List Vd) : Prop := ∀ x ∈ l, OwnN 3 w base x.A x.k x.c x.t ∧ x.k ≤ 17592186044416
theorem TabsH.nil (w : World) (base : Nat) : TabsH w base [] := fun x h => by cases h
theorem TabsH.snoc {w : World} {base : Nat} {l : List Vd} (h : TabsH w base l) {x : Vd} (hx : OwnN 3 w base x.A x.k x.c x.t) (hk : x.k ≤ 17592186044416) : TabsH w base (l ++ [x]) := fun y hy => by
  rcases List.mem_append.1 hy with hy | hy
  · exact h y hy
  · rw [List.mem_singleton.1 hy]
    exact ⟨hx, hk⟩
theorem TabsH.byT {w w' : World} {base : Nat} {l : List Vd} (h : TabsH w base l) (hk : ∀ (k : Nat) (cs : Array Value) (z : Nat × Nat), w.heap[k]? = some (.cells cs 3 z) → w'.heap[k]? = w.heap[k]?) : TabsH w' base l := fun x hx => ⟨(h x hx).1.byT hk, (h x hx).2⟩
theorem TabsH.low {w w' : World} {base : Nat} {l : List Vd} (h : TabsH w base l) (hl : Low w w') : TabsH w' base l := h.byT fun k cs z hk => hl.block k (Array.getElem?_eq_some_iff.1 hk).1
theorem TabsH.keptC {w w' : World} {base : Nat} {l : List Vd} {row : Option Nat} (h : TabsH w base l) (hg : w.grownBy w' row) (hr : ∀ r, row = some r → ∃ o : Obj, w.heap[r]? = some o ∧ o.isCells = false) : TabsH w' base l := fun x hx => ⟨(h x hx).1.keptC hg hr, (h x hx).2⟩
/-- what holds between two rounds of All -/
def StayA (w : World) (ld : List Vd) (pre : List Nat) (W : World) : Prop :=
  (∃ D c l', BlkV W 44 w.heap.size [.slice D pre.length c] ∧ OwnE verE 37 W w.heap.size D pre.length c l' ∧ l'.map Vd.v = pre.map (fun i => (ld.getD i zeroVd).v) ∧ TabsH W w.heap.size l') ∧ Low w W
theorem stayA_own (w w3 : World) (ld : List Vd) (h8 : w.heap.size ≤ w3.heap.size) : OwnFrom w3.heap.size (StayA w ld) := fun s A C row hs hg hr => by
  obtain ⟨⟨D, c, l', h1, h2, h3, h4⟩, h5⟩ := hs
  exact ⟨⟨D, c, l', h1.keptC hg (fun r e => (hr r e).2), h2.keptC hg (fun r e => (hr r e).2), h3, h4.keptC hg (fun r e => (hr r e).2)⟩, ownFrom_below (β := Unit) (Nat.le_refl _) h8 () A C row h5 hg hr⟩
/-- the loop's variable is not the row -/
def ApartA (w : World) (g : Nat) (W : World) : Prop := ∃ D m c, BlkV W 44 w.heap.size [.slice D m c] ∧ ∀ k, (Value.slice D m c).ownBlock = some k → k ≠ g
theorem blkV_one {W : World} {t : TypeId} {g : Nat} {u v : Value} (h : BlkV W t g [u]) (k : BlkV W t g [v]) : u = v := by
  unfold BlkV at h k
  rw [h] at k
  injection k with k
  injection k with k _ _
  simpa using k
theorem stayA_apart (w : World) (ld : List Vd) (pre : List Nat) (W : World) (g : Nat) (W' : World) (h : StayA w ld pre W) (hl : Low W W') (hg : W.heap.size ≤ g) : ApartA w g W' := by
  obtain ⟨⟨D, c, l', h1, h2, _⟩, _⟩ := h
  exact ⟨D, _, c, h1.below hl h1.lt, fun k hk => by have := (h2.lt k hk).2; omega⟩
theorem apartA_own (w w3 : World) (g : Nat) : OwnFrom w3.heap.size (fun (_ : Unit) W => ApartA w g W) := fun s A C row hs hg hr => by
  obtain ⟨D, m, c, h1, h2⟩ := hs
  exact ⟨D, m, c, h1.keptC hg (fun r e => (hr r e).2), h2⟩

set_option maxRecDepth 100000 in
set_option maxHeartbeats 6400000 in
theorem hall_any (p : Option Addr) (A : Option Addr) (n c : Nat) (ld : List Vd) (w : World) (hn : n ≤ 1000) (hs : SeeH w w.heap.size (.pointer p) A n c) (hb : Es verE w w.heap.size A n ld) (ht : ∀ x ∈ ld, Ns w w.heap.size x.A x.k x.t ∧ x.k ≤ 17592186044416) :
    Calls Try.prog 15 #[.pointer p] w fun e w' => ∃ D d l', e = .returned (.slice D n d) ∧ OwnE verE 37 w' w.heap.size D n d l' ∧ l'.map Vd.v = ld.map Vd.v ∧ TabsH w' w.heap.size l' ∧ Low w w' := by
  have HB := Lib.hid hb
  have HS := Lib.hid hs
  have HN := Lib.hid hb.len
  have HT := Lib.hid (show ∀ i, Ns w w.heap.size (ld.getD i zeroVd).A (ld.getD i zeroVd).k (ld.getD i zeroVd).t ∧ (ld.getD i zeroVd).k ≤ 17592186044416 from fun i => by
    by_cases hi : i < ld.length
    · have e : ld.getD i zeroVd = ld[i] := by simp [List.getD, hi]
      rw [e]
      exact ht _ (List.getElem_mem _)
    · have e : ld.getD i zeroVd = zeroVd := by simp [List.getD, List.getElem?_eq_none (Nat.le_of_not_lt hi)]
      rw [e]
      exact ⟨Ns.nil _ _ _, by decide⟩)
  clear hb hs ht
  obtain ⟨i0, hi, hz0, hz1, hz2⟩ := info_hverJ_parts
  have HI := Lib.hid hi
  have HZ0 := Lib.hid hz0
  have HZ1 := Lib.hid hz1
  have HZ2 := Lib.hid hz2
  clear hi hz0 hz1 hz2
  refine (callsIn_wide (n := 5)).1 ?_
  refine callsIn_of_wp_marks Try.func15 rfl trivial ?_ rfl
  simp only [Try.ntmps15, List.size_toArray, List.length_cons, List.length_nil, Nat.reduceAdd, Nat.reduceSub, Array.replicate_succ, Array.replicate_zero, List.push_toArray, List.append_toArray, List.nil_append, List.cons_append]
  refine wpIn_wide.2 ?_
  go_wp2_with fail
  obtain ⟨w2, hw2⟩ : ∃ w2, w2 = w.alloc (.cells #[.slice none 0 0] 44) := ⟨_, rfl⟩
  have k2 : BlkV w2 44 w.heap.size [.slice none 0 0] := by rw [hw2]; exact BlkV.new w 44 [.slice none 0 0]
  have l2 : Low w w2 := by rw [hw2]; exact Low.alloc w _
  have hz2 : w2.heap.size = w.heap.size + 1 := by rw [hw2]; simp
  rw [← hw2]
  clear hw2
  refine (heach_any p w2).mono ?_
  rintro e w3 ⟨rfl, h3, hz3, hl⟩
  obtain ⟨B, hBB⟩ : ∃ B, B = w2.heap.size := ⟨_, rfl⟩
  rw [← hBB] at h3 hz3 hz2 ⊢
  have H3 := Lib.hid h3
  have hlow3 : Low w w3 := l2.trans hl
  have HB3 := Lib.hid (HB.out.below hlow3)
  have HS3 := Lib.hid (HS.out.below hlow3 (Nat.le_refl _))
  have J1 := Lib.hid (k2.below hl k2.lt)
  have HL3 := Lib.hid hlow3
  have hB3 : B + 1 = w3.heap.size := by omega
  have HZZ := Lib.hid hz2
  clear h3 hl hBB hz2 hz3 hlow3 HB HS k2 l2
  go_wp2_with fail
  have h8 := HL3.out.size
  have HSQ := Lib.hid (heach1_any 4 (by omega) p A n c ld B w.heap.size hn w3 (by have := HZZ.out; omega) H3.out HS3.out HB3.out)
  refine (wpIn_wide (n := 5)).1 ?_
  refine wpIn_seq_b rfl (fun args u => by go_simp) (by omega) (cells := fun x : Nat => vdC (ld.getD x zeroVd)) HSQ.out (by omega) (Below.refl _ w3) 37 7 4 rfl
    (StayA w ld) (stayA_own w w3 ld h8) ⟨⟨none, 0, [], J1.out, OwnE.none_ _ _ _ _, rfl, TabsH.nil _ _⟩, HL3.out⟩ (ApartA w) (apartA_own w w3) (stayA_apart w ld) (fun l x W K hK => assign_b (by simp) (by simp) (by decide) hver_zero rfl (by kernel_rfl) (vdC_one _) hK) ?body ?done
  case body =>
    rintro l pre x g W ⟨⟨D, c', l', h1, h2, h3, h4⟩, h5⟩ hg hx ⟨D', m', d', hf1, hf2⟩ hW hlt
    obtain ⟨rfl, rfl, rfl⟩ : D = D' ∧ pre.length = m' ∧ c' = d' := by
      have h := blkV_one h1 hf1
      injection h with e1 e2 e3
      exact ⟨e1, e2, e3⟩
    have HNS := Lib.hid ((HT.out x).1.below' (show Below w.heap.size w W from h5) h5.size)
    have HKK := Lib.hid (HT.out x).2
    have HCP := Lib.hid (fun u => copied_any (ld.getD x zeroVd) u HKK.out)
    have HXV := Lib.hid (show (ld.getD x zeroVd).v = ⟨(ld.getD x zeroVd).n, (ld.getD x zeroVd).f, (ld.getD x zeroVd).u, (ld.getD x zeroVd).t⟩ from rfl)
    have HX := Lib.hid hx
    have HA := Lib.hid h1
    have HO := Lib.hid h2
    have HM := Lib.hid h3
    have HTB := Lib.hid h4
    have HL5 := Lib.hid h5
    have HAP := Lib.hid hf2
    clear hx h1 h2 h3 h4 h5 hf1 hf2 HT
    generalize hxx : ld.getD x zeroVd = X at *
    have HXX := Lib.hid hxx
    clear hxx
    obtain ⟨x1, x2, x3, x4, x5, x6, x7⟩ := X
    dsimp only at HNS HKK HCP HXV
    refine wpIn_block ?_
    refine inR_planS (fun y => BlkV y 37 g (vdC ⟨x1, x2, x3, x4, x5, x6, x7⟩)) (.rd 1 (.fork 0 (.act 2 (.act 3 (.act 4 (.act 5 .done)))) 2 (.fork 0 (.act 3 (.act 4 (.act 5 .done))) 3 (.act 0 (.act 4 (.act 5 .done)))))) (by rintro ⟨_, _, h⟩; exact h) (by kernel_rfl) (by kernel_rfl) (by kernel_rfl) (fun _ _ _ _ _ h => h) (by kernel_rfl) HX.out ?_
    replace HX : Hid (BlkV W.drew 37 g (vdC ⟨x1, x2, x3, x4, x5, x6, x7⟩)) := HX
    replace HA : Hid (BlkV W.drew 44 w.heap.size [.slice D pre.length c']) := HA
    replace HO : Hid (OwnE verE 37 W.drew w.heap.size D pre.length c' l') := HO
    replace HTB : Hid (TabsH W.drew w.heap.size l') := HTB
    replace HL5 : Hid (Low w W.drew) := Lib.hid (Below.drew HL5.out)
    replace HNS : Hid (Ns W.drew W.drew.heap.size x4 x5 x7) := Lib.hid HNS.out.drew
    have HKF := Lib.hid (show KeepsFrom w3.heap.size W W.drew from ⟨Nat.le_refl _, fun _ _ _ h _ => h⟩)
    have HBW := Lib.hid (show Below w.heap.size W W.drew from Below.drew (Below.refl _ W))
    have hW5 : w3.heap.size ≤ W.drew.heap.size := hW
    generalize W.drew = w5 at *
    refine walkS_read (v := _) rfl (by rfl) (by intro y hy; exact exec_load_v rfl hy _ Try.underlying37 rfl (by kernel_rfl)) ?_
    simp only [Act.put, List.setIfInBounds_toArray, List.set_cons_zero, List.set_cons_succ]
    refine walkS_forkD ?fa ?fb
    case' fa =>
      refine walkS_act rfl (by rfl) (fun K hK => ?_)
      have c0 : w5.cell? ⟨w.heap.size, 0, none⟩ = some (.slice D pre.length c') := HA.out.cell 0
      go_simp
      refine hK _ _ HX.out ?_
      clear hK K c0
      refine walkS_act rfl (by rfl) (fun K hK => ?_)
      go_simp
      refine (HCP.out w5 HNS.out).mono ?_
      rintro e w6 ⟨A6, c6, rfl, hO6, hl6⟩
      go_simp
      replace HX := Lib.hid (HX.out.below hl6 HX.out.lt)
      refine hK _ _ HX.out ?_
      clear hK K
      replace HA := Lib.hid (HA.out.below hl6 HA.out.lt)
      replace HO := Lib.hid (HO.out.below hl6)
      replace HTB := Lib.hid (HTB.out.low hl6)
      have HO6 := Lib.hid hO6
      have HZ6 := Lib.hid hl6.size
      have HB6 := Lib.hid hl6
      have HAP6 := Lib.hid (show ∀ k, (Value.slice A6 x5 c6).ownBlock = some k → w5.heap.size ≤ k from fun k hk => (hO6.lt k hk).1)
      clear hl6 hO6
      dsimp only [vdC]
      refine walkS_act rfl (by rfl) (fun K hK => ?_)
      go_simp
      have hlA := Low.alloc w6 (.cells #[.int .i64 x1, .int .i64 x2, .int .i64 x3, .slice A6 x5 c6] 37)
      have hE : Es verE (w6.alloc (.cells #[.int .i64 x1, .int .i64 x2, .int .i64 x3, .slice A6 x5 c6] 37)) (w6.heap.size + 1) (some ⟨w6.heap.size, 0, none⟩) 1 [⟨x1, x2, x3, A6, x5, c6, x7⟩] := Es.one_ (E := verE) w6 37 ⟨x1, x2, x3, A6, x5, c6, x7⟩ trivial (Nat.lt_succ_self _)
      have hsA : (w6.alloc (.cells #[.int .i64 x1, .int .i64 x2, .int .i64 x3, .slice A6 x5 c6] 37)).heap.size = w6.heap.size + 1 := by simp
      replace HX := Lib.hid (HX.out.below hlA HX.out.lt)
      refine hK _ _ HX.out ?_
      clear hK K
      generalize w6.alloc (.cells #[.int .i64 x1, .int .i64 x2, .int .i64 x3, .slice A6 x5 c6] 37) = w7 at *
      replace HA := Lib.hid (HA.out.below hlA HA.out.lt)
      replace HO := Lib.hid (HO.out.below hlA)
      replace HTB := Lib.hid (HTB.out.low hlA)
      replace HO6 := Lib.hid (HO6.out.below hlA)
      have HL7 := Lib.hid (HB6.out.trans hlA)
      have HE7 := Lib.hid hE
      have HS7 := Lib.hid hsA
      clear hlA hE hsA HB6
    case' fb =>
      refine walkS_act rfl (by rfl) (fun K hK => ?_)
      go_simp
      refine (HCP.out w5 HNS.out).mono ?_
      rintro e w6 ⟨A6, c6, rfl, hO6, hl6⟩
      go_simp
      replace HX := Lib.hid (HX.out.below hl6 HX.out.lt)
      refine hK _ _ HX.out ?_
      clear hK K
      replace HA := Lib.hid (HA.out.below hl6 HA.out.lt)
      replace HO := Lib.hid (HO.out.below hl6)
      replace HTB := Lib.hid (HTB.out.low hl6)
      have HO6 := Lib.hid hO6
      have HZ6 := Lib.hid hl6.size
      have HB6 := Lib.hid hl6
      have HAP6 := Lib.hid (show ∀ k, (Value.slice A6 x5 c6).ownBlock = some k → w5.heap.size ≤ k from fun k hk => (hO6.lt k hk).1)
      clear hl6 hO6
      dsimp only [vdC]
      refine walkS_forkD ?fc ?fd
      case' fc =>
        refine walkS_act rfl (by rfl) (fun K hK => ?_)
        have c0 : w6.cell? ⟨w.heap.size, 0, none⟩ = some (.slice D pre.length c') := HA.out.cell 0
        go_simp
        refine hK _ _ HX.out ?_
        clear hK K c0
        refine walkS_act rfl (by rfl) (fun K hK => ?_)
        go_simp
        have hlA := Low.alloc w6 (.cells #[.int .i64 x1, .int .i64 x2, .int .i64 x3, .slice A6 x5 c6] 37)
        have hE : Es verE (w6.alloc (.cells #[.int .i64 x1, .int .i64 x2, .int .i64 x3, .slice A6 x5 c6] 37)) (w6.heap.size + 1) (some ⟨w6.heap.size, 0, none⟩) 1 [⟨x1, x2, x3, A6, x5, c6, x7⟩] := Es.one_ (E := verE) w6 37 ⟨x1, x2, x3, A6, x5, c6, x7⟩ trivial (Nat.lt_succ_self _)
        have hsA : (w6.alloc (.cells #[.int .i64 x1, .int .i64 x2, .int .i64 x3, .slice A6 x5 c6] 37)).heap.size = w6.heap.size + 1 := by simp
        replace HX := Lib.hid (HX.out.below hlA HX.out.lt)
        refine hK _ _ HX.out ?_
        clear hK K
        generalize w6.alloc (.cells #[.int .i64 x1, .int .i64 x2, .int .i64 x3, .slice A6 x5 c6] 37) = w7 at *
        replace HA := Lib.hid (HA.out.below hlA HA.out.lt)
        replace HO := Lib.hid (HO.out.below hlA)
        replace HTB := Lib.hid (HTB.out.low hlA)
        replace HO6 := Lib.hid (HO6.out.below hlA)
        have HL7 := Lib.hid (HB6.out.trans hlA)
        have HE7 := Lib.hid hE
        have HS7 := Lib.hid hsA
        clear hlA hE hsA HB6
      case' fd =>
        refine walkS_act rfl (by rfl) (fun K hK => ?_)
        go_simp
        have hlA := Low.alloc w6 (.cells #[.int .i64 x1, .int .i64 x2, .int .i64 x3, .slice A6 x5 c6] 37)
        have hE : Es verE (w6.alloc (.cells #[.int .i64 x1, .int .i64 x2, .int .i64 x3, .slice A6 x5 c6] 37)) (w6.heap.size + 1) (some ⟨w6.heap.size, 0, none⟩) 1 [⟨x1, x2, x3, A6, x5, c6, x7⟩] := Es.one_ (E := verE) w6 37 ⟨x1, x2, x3, A6, x5, c6, x7⟩ trivial (Nat.lt_succ_self _)
        have hsA : (w6.alloc (.cells #[.int .i64 x1, .int .i64 x2, .int .i64 x3, .slice A6 x5 c6] 37)).heap.size = w6.heap.size + 1 := by simp
        replace HX := Lib.hid (HX.out.below hlA HX.out.lt)
        refine hK _ _ HX.out ?_
        clear hK K
        generalize w6.alloc (.cells #[.int .i64 x1, .int .i64 x2, .int .i64 x3, .slice A6 x5 c6] 37) = w7 at *
        replace HA := Lib.hid (HA.out.below hlA HA.out.lt)
        replace HO := Lib.hid (HO.out.below hlA)
        replace HTB := Lib.hid (HTB.out.low hlA)
        replace HO6 := Lib.hid (HO6.out.below hlA)
        have HL7 := Lib.hid (HB6.out.trans hlA)
        have HE7 := Lib.hid hE
        have HS7 := Lib.hid hsA
        clear hlA hE hsA HB6
        refine walkS_act rfl (by rfl) (fun K hK => ?_)
        have c0 : w7.cell? ⟨w.heap.size, 0, none⟩ = some (.slice D pre.length c') := HA.out.cell 0
        go_simp
        refine hK _ _ HX.out ?_
        clear hK K c0
    all_goals
      have hb7 : w.heap.size ≤ w7.heap.size := by have := HL5.out.size; have := HL7.out.size; omega
      refine walkS_act rfl (by rfl) (fun K hK => ?_)
      refine wp_append_es (E := verE) _ _ _ rfl w.heap.size 37 i0 _ 48 Try.underlying44 HI.out HZ0.out HZ1.out rfl HZ2.out D pre.length c' l' rfl HO.out _ 1 1 (w6.heap.size + 1) [⟨x1, x2, x3, A6, x5, c6, x7⟩] rfl HE7.out (by omega) (by omega) hb7 (fun A9 c9 w9 hown hgr hob => ?_)
      have hcs := fun k (e : (Value.slice D pre.length c').ownBlock = some k) => HO.out.isCells e
      have hX9 : BlkV w9 37 g (vdC ⟨x1, x2, x3, x4, x5, x6, x7⟩) := (hgr.block g HX.out.lt (fun e => HAP.out _ e.symm rfl)).trans HX.out
      have hA9 : BlkV w9 44 w.heap.size [.slice D pre.length c'] := (hgr.block w.heap.size HA.out.lt (fun e => by obtain ⟨cs, h⟩ := hcs _ e.symm; exact HA.out.neT h (by decide +kernel) rfl)).trans HA.out
      have hI9 : ∀ (k : Nat) (cs : Array Value) (z : Nat × Nat), w7.heap[k]? = some (.cells cs 3 z) → w9.heap[k]? = w7.heap[k]? := fun k cs z hk => hgr.block k (Array.getElem?_eq_some_iff.1 hk).1 (fun e => by
        obtain ⟨cs', h⟩ := hcs _ e.symm
        rw [hk] at h
        injection h with h
        injection h with _ h _
        exact absurd h (by decide +kernel))
      have hT9 := HTB.out.byT hI9
      have hO9 := HO6.out.byT hI9
      have hKF9 : KeepsFrom w3.heap.size W w9 := (HKF.out.trans (KeepsFrom.of_grownBy (grown_of_lowR HL7.out) (fun j e => by cases e))).trans ⟨hgr.size, fun k o _ hk ho => (hgr.block k (Array.getElem?_eq_some_iff.1 hk).1 (fun e => by
        obtain ⟨cs', h⟩ := hcs _ e.symm
        rw [hk] at h
        injection h with h
        subst h
        cases ho)).trans hk⟩
      have hBW9 : Below w.heap.size W w9 := (HBW.out.trans (HL7.out.mono HL5.out.size)).grown hgr hb7 (fun k e => (HO.out.lt k e).1)
      have hL9 : Low w w9 := (HL5.out.trans HL7.out).grown hgr hb7 (fun k e => (HO.out.lt k e).1)
      refine hK _ _ hX9 ?_
      clear hK K
      refine walkS_act rfl (by rfl) (fun K hK => ?_)
      refine wp_store_one 44 _ _ rfl w.heap.size 0 rfl (.slice A9 (pre.length + 1) c9) rfl rfl rfl 44 _ hA9 (by simp) (by kernel_rfl) (fun w10 h10 hb10 hz10 ho10 => ?_)
      refine hK _ _ (hX9.same (ho10 g (by have := HZZ.out; omega))) ?_
      clear hK K
      unfold walkS
      have hne : ∀ (k : Nat) (t : TypeId) (cs : Array Value) (z : Nat × Nat), t ≠ 44 → w9.heap[k]? = some (.cells cs t z) → w10.heap[k]? = w9.heap[k]? := fun k t cs z ht hk => ho10 k (hA9.neT hk ht)
      refine ⟨hKF9.trans ⟨by omega, fun k o _ hk ho => (ho10 k (by
        rintro rfl
        rw [show w9.heap[w.heap.size]? = _ from hA9] at hk
        injection hk with hk
        subst hk
        cases ho)).trans hk⟩, hBW9.trans hb10, ⟨A9, c9, l' ++ [⟨x1, x2, x3, A6, x5, c6, x7⟩], ?_, ?_, ?_, ?_⟩, Below.trans hL9 hb10⟩
      · rw [List.length_append]
        exact h10
      · rw [List.length_append]
        exact hown.byT fun k cs z hk => hne k _ cs z (by decide +kernel) hk
      · rw [List.map_append, List.map_append, HM.out]
        simp only [List.map_cons, List.map_nil]
        rw [HXX.out]
        rfl
      · exact (hT9.byT fun k cs z hk => hne k _ cs z (by decide +kernel) hk).snoc (x := ⟨x1, x2, x3, A6, x5, c6, x7⟩) ((hO9.byT fun k cs z hk => hne k _ cs z (by decide +kernel) hk).lower (by have := HL5.out.size; omega)) HKK.out
  case done =>
    rintro X xs W hX rfl ⟨⟨D, c', l', h1, h2, h3, h4⟩, h5⟩ hK
    rw [List.length_range] at h1 h2
    have K1 := Lib.hid h1
    have K2 := Lib.hid h2
    have K3 := Lib.hid (show l'.map Vd.v = ld.map Vd.v by
      rw [h3]
      refine List.ext_getElem (by simp [HN.out]) fun i h1 h2 => ?_
      simp only [List.length_map, List.length_range] at h1 h2
      simp [List.getD, h2])
    have K4 := Lib.hid h4
    have K5 := Lib.hid h5
    have HK := Lib.hid hK
    have HX := Lib.hid hX
    have c3 : W.cell? ⟨w.heap.size, 0, none⟩ = some (.slice D n c') := h1.cell 0
    clear h1 h2 h3 h4 h5 hK hX
    (try simp only [Exit.inBlock, Exit.then])
    go_wp2_with fail
    refine ⟨by simp, .inl ⟨_, _, rfl, run_takeDeferred HK.out, ?_⟩⟩
    refine ⟨_, results_tmp rfl _ _ _, ?_⟩
    have hg := grownBy_putObj' W X (.deferred none)
    have hr : ∀ r, some X = some r → ∃ o : Obj, W.heap[r]? = some o ∧ o.isCells = false := fun r e => by cases e; exact ⟨_, HK.out, rfl⟩
    exact ⟨D, c', l', rfl, K2.out.keptC hg hr, K3.out, K4.out.keptC hg hr, Below.trans K5.out (belowK_b (w := w3) h8 _ X _ _ HX.out HK.out rfl rfl)⟩
end Go.Proofs.Ytedldebomoplmaa
