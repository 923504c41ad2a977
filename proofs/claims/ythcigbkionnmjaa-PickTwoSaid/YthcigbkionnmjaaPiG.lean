/- Stage 18: what pick.Nodes answers. Condition: at most 1000 slots. -/
import Derived.Test.YthcigbkionnmjaaPiE
import Derived.Test.YthcigbkionnmjaaShelf
import Derived.Maps.RangeWalk
import Derived.Maps.OwnSet
import Derived.Sort.Grow
set_option maxRecDepth 100000
namespace Go.Proofs.Ythcigbkionnmjaa
open Go.RowKit Go.Maps
set_option linter.unusedVariables false
attribute [local go_sem] Oper.semAt_some

/-- numbers as a set -/
def setP {H : Type} (l : List Int) : DataW H := setOf (.agg []) (l.map (Lit.int .i64))
theorem setP_nil {H : Type} : setP (H := H) [] = .map [] := by simp [setP, setOf]
theorem setP_snoc {H : Type} (l : List Int) (x : Int) : setP (H := H) (l ++ [x]) = (setP l).put (.int .i64 x) (.agg []) := by
  unfold setP
  rw [List.map_append, List.map_singleton, setOf_snoc]
theorem sameI (x y : Int) : (Lit.int .i64 x).sameKey (.int .i64 y) = (x == y) := by
  by_cases h : x = y
  · rw [h]
    exact (WideAt.sameKey_self (a := .int .i64 y) trivial).trans (by simp)
  · have h2 : (x == y) = false := by simpa using h
    rw [h2]
    cases hs : (Lit.int .i64 x).sameKey (.int .i64 y)
    · rfl
    · have := WideAt.sameKey_eq hs
      injection this with _ e
      exact absurd e h
theorem has_setP {H : Type} (l : List Int) (x : Int) : Maps.has (setP (H := H) l) (.int .i64 x) = l.contains x := by
  unfold setP
  rw [has_setOf _ _ _ (fun y hy => by obtain ⟨z, hz, rfl⟩ := List.mem_map.1 hy; exact trivial), List.any_map, Bool.eq_iff_iff]
  simp only [List.any_eq_true, List.contains_iff_mem, Function.comp, sameI, beq_iff_eq]
  constructor
  · rintro ⟨y, hy, rfl⟩
    exact hy
  · exact fun h => ⟨x, h, rfl⟩
theorem keyedP : Keyed Try.prog 3 := int_keyed Try.underlying3
theorem keyP (x : Int) (h : i64ok x) : keyOf Try.prog 3 (.int .i64 x) = some (.int .i64 x) := keyOf_int_mk Try.underlying3 (by
  unfold i64ok at h
  simp [Lit.wf, IntKind.min, IntKind.max, IntKind.bits, IntKind.signed]
  omega)
theorem keyP_inv {x : Int} (h : (Lit.int .i64 x).wf = true) : i64ok x := by
  unfold i64ok
  simp [Lit.wf, IntKind.min, IntKind.max, IntKind.bits, IntKind.signed] at h
  omega
/-- the range's step over a set of ints -/
theorem wpList_next_iu {H : Type} {P : Program} (w : World) {ops : Array Oper} {rest : List Oper} {o : Oper} {a : Act} {Q : Exit → Act → World → Prop} (hg : o.guard = none) (it : Operand) (hop : o.op = Op.next it false) (k : TypeId) (K : Keyed P k) (hk : P.underlying k = some (.int .i64))
    (b r n : Nat) (D : DataW H) (left : Lit → Bool) (cnt : Nat) (hit : a.eval it = .pointer (some ⟨r, 0, none⟩)) (h : w.ranges P k unitElem b r n D left cnt)
    (hDone : cnt = 0 → (∀ kl, left kl = false) → wpList P ops Q rest (a.put o.dst (.tuple #[.bool false])) w)
    (hMore : ∀ (x : Int) (w' : World) (cnt' : Nat), i64ok x → left (.int .i64 x) = true → w'.ranges P k unitElem b r n D (fun z => left z && !z.sameKey (.int .i64 x)) cnt' → cnt' < cnt →
      w.grownBy w' (some r) → w'.heap.size = w.heap.size → (Instr.entry (.pointer (some ⟨r, 0, none⟩))).run P w' = .ok (.tuple #[.int .i64 x, .agg #[]]) w' → wpList P ops Q rest (a.put o.dst (.tuple #[.bool true, .int .i64 x, .agg #[]])) w') :
    wpList P ops Q (o :: rest) a w :=
  wpList_next_ranges w hg it hop k K unitElem (Value.int .i64) (fun _ : Unit => .agg #[]) (fun key kl hkey => by obtain ⟨x, rfl, _⟩ := Maps.keyOf_int_inv hk hkey; exact ⟨x, rfl⟩) (fun v y hv => ⟨(), (unitElem_inv hv).1⟩)
    b r n D left cnt hit h hDone (fun x c kl y w' cnt' hkey hlk hv hat hrg hlt hgr hsz hen => by
      obtain ⟨x', ex, rfl, hwx⟩ := Maps.keyOf_int_inv hk hkey
      cases ex
      exact hMore x w' cnt' (keyP_inv hwx) hlk hrg hlt hgr hsz hen)

theorem heapP {H : Type} {w w' : World} {P : Program} {k : TypeId} {R : Value → Option (DataW H × List MemPlace)} {b n : Nat} {D : DataW H} (h : w.ownsMap P k R b n D) (e : w'.heap[b]? = w.heap[b]?) : w'.ownsMap P k R b n D := by
  obtain ⟨es, clock, hb, F, hs, hD⟩ := h
  exact ⟨es, clock, e.trans hb, F, hs, hD⟩
theorem sortI_any (t : TypeId) (w : World) (base : Nat) (A : Option Addr) (n c : Nat) (ys : List Int) (h : OwnN t w base A n c ys) (hn : n ≤ 1000000) :
    Calls Try.prog 15 #[.slice A n c] w fun e w' => e = .returned (.tuple #[]) ∧ n ≤ c ∧ Ns w' w'.heap.size A n (ys.mergeSort fun x y => decide (x ≤ y)) ∧ IFrom base A n ∧ Below base w w' := by
  have hl : ys.length = n := by have := h.1.1; rw [cellsN_length] at this; omega
  have hf := h.fromI
  have hp := List.mergeSort_perm ys (fun x y : Int => decide (x ≤ y))
  rcases h.1.2 with ⟨e, h0⟩ | ⟨g, cap, cur, hv, hbg, hg, hnc, hcm, hsz, htk⟩
  · injection e with e1 e2 e3
    subst e1 e2 e3
    obtain rfl : ys = [] := List.eq_nil_of_length_eq_zero hl
    refine (Try.slices_Sort_int_none none 0 w).mono ?_
    rintro e w' ⟨rfl, rfl⟩
    exact ⟨rfl, Nat.le_refl _, by simp; exact Ns.nil _ _ _, hf, Below.refl _ _⟩
  · injection hv with e1 _ e3
    subst e1 e3
    have hglt : g < w.heap.size := (Array.getElem?_eq_some_iff.1 hg).1
    have hH : Go.Sort.Holds (Value.int .i64) w g 0 ys.toArray := fun j hj => by
      have hj' : j < ys.length := by simpa using hj
      constructor
      · have h1 := World.ownsRow.cells h.1 (g := g) rfl j _ (cellsN_get hj')
        have e2 : ys.toArray[j]! = ys.getD j 0 := by rw [getElem!_pos ys.toArray j hj]; simp [List.getD, hj']
        rw [e2]
        simpa [Addr.add_lit] using h1
      · simp [World.frozen?, hg]
    rw [← hl]
    refine (Try.slices_Sort_int g 0 c ys w hH hglt (by omega)).mono ?_
    rintro e w' ⟨rfl, m, os, rfl⟩
    generalize hd : (ys.mergeSort fun x y => decide (x ≤ y)) = d at *
    have hdl : d.length = ys.length := hp.length_eq
    have hlow : Below base w (Go.Sort.grow (Go.Sort.putRow (Value.int .i64) (Go.Sort.ahead w m) g 0 d.toArray) os) := by
      refine ⟨rfl, rfl, rfl, by simp [Go.Sort.ahead], fun j hj => ?_⟩
      rw [Go.Sort.heap_grow_old _ _ (by simp [Go.Sort.ahead]; omega)]
      simp only [Go.Sort.putRow, Go.Sort.mapBlock, Array.getElem?_modify]
      rw [if_neg (by omega)]
      rfl
    refine ⟨rfl, by omega, ⟨hdl, fun x hx => h.2 x (hp.mem_iff.1 hx), fun h0 => ⟨g, 0, rfl, Nat.lt_of_lt_of_le hglt hlow.size, fun i hi => ?_⟩⟩, by rw [hl]; exact hf, hlow⟩
    rw [Go.Sort.cell?_grow _ _ _ (by simp [Go.Sort.ahead]; exact hglt)]
    have e := Go.Sort.cell?_putRow (Value.int .i64) (Go.Sort.ahead w m) g 0 ys.toArray d.toArray hH (by simp [hdl]) i (by simp [hdl]; exact hi)
    rw [e, getElem!_pos d.toArray i (by simp [hdl]; exact hi)]
    simp [List.getD, show i < d.length by omega]
theorem range_getD (L : List Int) : (List.range L.length).map (fun i => L.getD i 0) = L := by
  refine List.ext_getElem (by simp) fun i h1 h2 => ?_
  simp [List.getD, h2]
/-- what holds between two rounds of Nodes -/
def StayN (w : World) (b0 m : Nat) (L : List Int) (pre : List Nat) (W : World) : Prop := (BlkV W 33 (b0 + 1) [.map (some b0)] ∧ W.ownsMap Try.prog 3 (unitElem (H := Unit)) b0 pre.length (setP (H := Unit) (pre.map fun i => L.getD i 0)) ∧ m ≤ W.heap.size) ∧ Low w W
theorem stayN_own (w w3 : World) (b0 m : Nat) (L : List Int) (h8 : w.heap.size ≤ w3.heap.size) (hb : b0 < w3.heap.size) : OwnFrom w3.heap.size (StayN w b0 m L) := fun s A C row hs hg hr =>
  ⟨⟨hs.1.1.keptC hg (fun r e => (hr r e).2), hs.1.2.1.kept hg (fun e => by have := (hr _ e.symm).1; omega), Nat.le_trans hs.1.2.2 hg.size⟩, ownFrom_below (β := Unit) (Nat.le_refl _) h8 () A C row hs.2 hg hr⟩
theorem met_nodes (t : List Int) (ys : List Int) (hn : ys.Nodup) (hm : ∀ x, x ∈ ys ↔ x ∈ metP t 0) : ys.mergeSort (fun x y => decide (x ≤ y)) = nodesP t := by
  have hp := List.mergeSort_perm ys (fun x y => decide (x ≤ y))
  have h1 : RiseI (ys.mergeSort fun x y => decide (x ≤ y)) := by
    have hs := List.pairwise_mergeSort (le := fun x y : Int => decide (x ≤ y)) (fun a b c h1 h2 => by simp at h1 h2 ⊢; omega) (fun a b => by simp; omega) ys
    have hd : (ys.mergeSort fun x y => decide (x ≤ y)).Nodup := hp.nodup_iff.2 hn
    exact (List.Pairwise.and hs hd).imp fun h => by simp at h; omega
  have h2 : NodesI t (ys.mergeSort fun x y => decide (x ≤ y)) := ⟨h1, fun x => by
    rw [hp.mem_iff, hm]
    unfold metP posP
    rw [List.mem_filter, roundP_mem]
    simp⟩
  exact h2.one (nodesP_nodes t)

set_option maxRecDepth 100000 in
set_option maxHeartbeats 3200000 in
theorem pinodes_any : PiNodes := by
  intro A n c t w hn hnc hb
  have hmm := @run_makeMap Try.prog
  have HB := Lib.hid hb
  clear hb
  refine (callsIn_wide (n := 5)).1 ?_
  refine callsIn_of_wp_marks Try.func9 rfl trivial ?_ rfl
  simp only [Try.ntmps9, List.size_toArray, List.length_cons, List.length_nil, Nat.reduceAdd, Nat.reduceSub, Array.replicate_succ, Array.replicate_zero, List.push_toArray, List.append_toArray, List.nil_append, List.cons_append]
  refine wpIn_wide.2 ?_
  go_wp2_with fail
  have hm0 := World.ownsMap_made w Try.prog 3 (unitElem (H := Unit))
  have hmA := hm0.alloc (.cells #[.map (some w.heap.size)] 33)
  have hbA : BlkV ((w.alloc (.map #[] 0)).alloc (.cells #[.map (some w.heap.size)] 33)) 33 (w.heap.size + 1) [.map (some w.heap.size)] := by
    have h := BlkV.new (w.alloc (.map #[] 0)) 33 [.map (some w.heap.size)]
    rw [World.size_alloc] at h
    exact h
  have hLA := (Low.alloc w (.map #[] 0)).trans (Low.alloc (w.alloc (.map #[] 0)) (.cells #[.map (some w.heap.size)] 33))
  obtain ⟨w2, hw2⟩ : ∃ w2, w2 = (w.alloc (.map #[] 0)).alloc (.cells #[.map (some w.heap.size)] 33) := ⟨_, rfl⟩
  have hz2 : w2.heap.size = w.heap.size + 2 := by rw [hw2]; simp
  rw [← hw2] at hmA hbA hLA ⊢
  obtain ⟨b0, hb0⟩ : ∃ b0, b0 = w.heap.size := ⟨_, rfl⟩
  replace HB := Lib.hid (HB.out.below hLA)
  have HZ0 := Lib.hid hb0
  rw [← hb0] at hmA hbA hz2 HB ⊢
  have HL := Lib.hid hLA
  clear hw2 hb0 hm0 hLA hmm
  refine (round_any A n c 0 w2).mono ?_
  rintro e w3 ⟨rfl, h3, h4, hz3, hl⟩
  obtain ⟨B, hBB⟩ : ∃ B, B = w2.heap.size := ⟨_, rfl⟩
  rw [← hBB] at h3 h4 hz3 hz2 ⊢
  have H3 := Lib.hid h3
  have H4 := Lib.hid h4
  have H1 := Lib.hid (heapP hmA (hl.block b0 (by omega)))
  have H2 := Lib.hid (hbA.below hl hbA.lt)
  replace HB := Lib.hid (HB.out.below (Below.trans (Below.refl b0 w2) (hl.mono (by omega))))
  replace HL := Lib.hid (HL.out.trans hl)
  have hB2 : b0 + 2 ≤ B := by omega
  have hB3 : B + 2 ≤ w3.heap.size := by omega
  clear h3 h4 hl hBB hz2 hz3 hmA hbA
  go_wp2_with fail
  have h8 := HL.out.size
  have HSQ := Lib.hid (round1_any 4 (by omega) A n c t 0 B b0 hn (by omega) w3 (by omega) H3.out H4.out HB.out)
  have HLN := Lib.hid (show (metP t 0).length ≤ 1000 by
    unfold metP posP
    have h1 := List.length_filter_le (fun x => decide ((0 : Int) < x)) (roundP t (0 % t.length))
    rw [roundP_len, HB.out.len] at h1
    exact Nat.le_trans h1 hn)
  have HOK := Lib.hid (show ∀ i, i64ok ((metP t 0).getD i 0) from fun i => by
    rcases Nat.lt_or_ge i (metP t 0).length with hi | hi
    · have e : (metP t 0).getD i 0 = (metP t 0)[i] := by simp [List.getD, hi]
      rw [e]
      have h1 := List.getElem_mem hi
      have h2 : (metP t 0)[i] ∈ t := roundP_mem.1 (List.mem_filter.1 h1).1
      exact HB.out.all _ h2
    · have e : (metP t 0).getD i 0 = 0 := by simp [List.getD, List.getElem?_eq_none hi]
      rw [e]
      unfold i64ok
      omega)
  have HMN := Lib.hid (met_nodes t)
  generalize metP t 0 = L at *
  refine (wpIn_wide (n := 5)).1 ?_
  refine wpIn_seq_w rfl (fun args u => by go_simp) (by omega) (enc := fun x : Nat => .int .i64 (L.getD x 0)) HSQ.out
    (fun h k => h.trans k) (fun W l o o' hl _ _ _ => KeepsTo.putObj W l o' (by have := HZ0.out; omega) (by omega)) (Below.refl _ w3) 10 4 rfl
    (StayN w b0 (B + 2) L) (stayN_own w w3 b0 (B + 2) L h8 (by omega))
    ⟨⟨H2.out, by simp only [List.length_nil, List.map_nil, setP_nil]; exact H1.out, hB3⟩, HL.out⟩ ?assign ?body ?done
  case assign =>
    intro l v W K hK
    gi_wp2
    exact hK
  case body =>
    rintro l pre x W ⟨⟨h1, h2, h5⟩, h4⟩ hlt
    have c1 : W.cell? ⟨b0 + 1, 0, none⟩ = some (.map (some b0)) := by rw [h1.cell 0]; rfl
    have K1 := Lib.hid h1
    have K2 := Lib.hid h2
    have K4 := Lib.hid h4
    have K5 := Lib.hid h5
    have KX := Lib.hid (keyP _ (HOK.out x))
    have KS := Lib.hid (setP_snoc (H := Unit) (pre.map fun i => L.getD i 0) (L.getD x 0))
    clear h1 h2 h4 h5
    generalize hy : L.getD x 0 = y at *
    replace hy := Lib.hid hy
    have hpl : pre.length < maxLen := by simp only [maxLen]; have := HLN.out; omega
    gi_wp2_with (gi_at_mapUpdate; refine wpListIn_mapUpdate_own _ rfl _ _ _ 33 rfl 3 37 keyedP Try.underlying33 unitElem b0 pre.length _ rfl K2.out hpl _ _ _ rfl rfl KX.out _ [] unitElem_mk ?_; intro w1 hown1 hgrow1)
    have hz := K4.out.size
    have e0 := HZ0.out
    refine ⟨KeepsFrom.of_grownBy hgrow1 (fun j e => by cases e; omega), (KeepsTo.refl b0 B 2 W).grown hgrow1 (by omega) (by have := K5.out; omega) (fun j e => by cases e; omega), ⟨⟨?_, ?_, Nat.le_trans K5.out hgrow1.size⟩, ?_⟩⟩
    · exact (hgrow1.block (b0 + 1) K1.out.lt (fun e => by injection e with e; omega)).trans K1.out
    · rw [List.length_append, List.map_append]
      simp only [List.map_cons, List.map_nil]
      rw [hy.out, KS.out]
      exact hown1
    · exact K4.out.grown hgrow1 (by omega) (fun j e => by cases e; omega)
  case done =>
    rintro D xs W hD rfl ⟨⟨h1, h2, h5⟩, h4⟩ hK
    have c1 : W.cell? ⟨b0 + 1, 0, none⟩ = some (.map (some b0)) := by rw [h1.cell 0]; rfl
    rw [range_getD L, List.length_range] at h2
    have HM := Lib.hid h2.size_le
    have HX := Lib.hid (fun x => has_setP (H := Unit) L x)
    have H2 := Lib.hid h2
    have H1' := Lib.hid h1
    have H4 := Lib.hid h4
    have HK := Lib.hid hK
    have HDL := Lib.hid (Array.getElem?_eq_some_iff.1 hK).1
    have HD := Lib.hid hD
    have hbW := h2.lt
    obtain ⟨i0, hi, hz0, hz1, hz2⟩ := info_int_partsP
    have HI := Lib.hid hi
    have HZZ0 := Lib.hid hz0
    have HZ1 := Lib.hid hz1
    have HZ2 := Lib.hid hz2
    clear h1 h2 h4 h5 hK hD hi hz0 hz1 hz2
    generalize setP (H := Unit) L = DD at *
    obtain ⟨M, hM⟩ : ∃ M, M = Maps.size DD := ⟨_, rfl⟩
    rw [← hM] at HM
    replace hM := Lib.hid hM
    have hm2 : M ≤ 1000 := Nat.le_trans HM.out HLN.out
    (try simp only [Exit.inBlock, Exit.then])
    go_wp2_with (first
      | (at_len; refine wpList_len_own W rfl _ 33 rfl 3 37 Try.underlying33 unitElem b0 L.length DD rfl H2.out ?_; rw [← hM.out])
      | (refine wpList_make_own W rfl (.const (.int .i64 0)) (.tmp 15) 22 rfl W.heap.size 3 i0 (.int .i64 0) 1 Try.underlying22 HI.out HZZ0.out HZ1.out .i64 .i64 (M : Int) M rfl rfl rfl (by rw [HZ2.out]; omega) (by simp only [maxLen]; omega) (Nat.le_refl _) ?_; intro w4 hr4 hg4; refine Hid.out ?_))
    refine Lib.hid ?_
    have l4 : Low W w4 := Below.grown (Low.refl W) hg4 (Nat.le_refl _) (fun k e => by cases e)
    have HR4 : Hid (OwnN 3 w4 W.heap.size (some ⟨W.heap.size, 0, none⟩) 0 M []) := Lib.hid ⟨hr4, AllI.nil⟩
    have H24 := Lib.hid (heapP H2.out (l4.block b0 hbW))
    have c4 : w4.cell? ⟨b0 + 1, 0, none⟩ = some (.map (some b0)) := (l4.cell (p := ⟨b0 + 1, 0, none⟩) H1'.out.lt).trans c1
    have hlt4 := (OwnN.lt HR4.out W.heap.size rfl).2
    have HL4 := Lib.hid l4
    clear hr4 hg4 l4 H2 c1
    go_wp2_with (at_range; refine wpList_range_own w4 rfl _ 33 rfl 3 37 keyedP Try.underlying33 unitElem b0 L.length DD rfl H24.out ?_; rw [← hM.out]; intro w5 hrg5 hg5 hs5; refine Hid.out ?_)
    refine Lib.hid ?_
    obtain ⟨r, hr⟩ : ∃ r, r = w4.heap.size := ⟨_, rfl⟩
    rw [← hr] at hrg5 hs5 ⊢
    have l5 : Low w4 w5 := Below.grown (Low.refl w4) hg5 (Nat.le_refl _) (fun k e => by cases e)
    have HR5 := Lib.hid (HR4.out.below l5)
    have HL5 := Lib.hid (Below.trans HL4.out (l5.mono (by omega)))
    have HG5 := Lib.hid hrg5
    have hWr : W.heap.size < r := by omega
    clear hg5 l5 HR4 HL4 H24 c4 hrg5 hs5 hr hlt4
    go_wp2_with fail
    go_loopw [5] (fun v5 wr => ∃ (left : Lit → Bool) (cnt : Nat) (A' : Option Addr) (c' : Nat) (ys : List Int), v5 = .slice A' ys.length c' ∧ Hid (wr.ranges Try.prog 3 (unitElem (H := Unit)) b0 r L.length DD left cnt) ∧ Hid (OwnN 3 wr W.heap.size A' ys.length c' ys) ∧ Hid (∀ j, (Value.slice A' ys.length c').ownBlock = some j → j ≠ r) ∧ Hid (Low W wr) ∧ Hid (ys.length + cnt ≤ M) ∧ Hid (ys.Nodup) ∧ Hid (∀ x, x ∈ ys ↔ (x ∈ L ∧ left (.int .i64 x) = false)) ∧ Hid (∀ x, left (.int .i64 x) = true → x ∈ L)) (fun _ wr => wr.rangeLeft b0 r)
    case atStart =>
      exact ⟨Maps.has DD, M, some ⟨W.heap.size, 0, none⟩, M, [], rfl, HG5, HR5, Lib.hid (fun j e => by simp [Value.ownBlock] at e; omega), HL5, Lib.hid (by simp), Lib.hid List.nodup_nil, Lib.hid (fun x => by rw [HX.out]; simp), Lib.hid (fun x h => by rw [HX.out] at h; simpa using h)⟩
    case round =>
      clear HG5 HR5 HL5
      obtain ⟨left, cnt, A', c', ys, rfl, HG, HO, HNR, HLW, HSZ, HND, HIN, HLI⟩ := hrel
      go_wp2_with (at_next; refine wpList_next_iu wr rfl _ rfl 3 keyedP Try.underlying3 b0 r L.length DD left cnt rfl HG.out ?_ ?_ <;> refine Hid.out ?_)
      · refine Lib.hid ?_
        intro hc0 hl0
        have HL0 := Lib.hid hl0
        clear hc0 hl0
        go_wp2_with fail
        have HSO := Lib.hid (sortI_any _ wr W.heap.size A' ys.length c' ys HO.out (by have := HSZ.out; omega))
        refine HSO.out.mono ?_
        rintro e w7 ⟨rfl, hcc, hns, hfr, hl7⟩
        have hsr : (ys.mergeSort fun x y => decide (x ≤ y)) = nodesP t := HMN.out ys HND.out fun x => by rw [HIN.out]; simp [HL0.out]
        have hyl : ys.length = (nodesP t).length := by rw [← hsr]; exact ((List.mergeSort_perm ys _).length_eq).symm
        have HL7 := Lib.hid (Below.trans HLW.out hl7)
        have HK7 : w7.heap[D]? = some (.deferred (some [])) := (HL7.out.block D HDL.out).trans HK.out
        rw [hsr] at hns
        have HN7 := Lib.hid hns
        have HF7 := Lib.hid hfr
        have HYL := Lib.hid hyl
        have HCC := Lib.hid hcc
        clear hns hfr hl7 hsr hyl hcc
        go_wp2_with fail
        refine ⟨by simp, .inl ⟨_, _, rfl, run_takeDeferred HK7, ?_⟩⟩
        refine ⟨_, results_tmp rfl _ _ _, ?_⟩
        have hkp : ∀ p : Addr, W.heap.size ≤ p.block → p.block < w7.heap.size → (w7.putObj D (.deferred none)).cell? p = w7.cell? p := fun p h0 _ => World.cell?_of_block (World.putObj_heap_other (by have := HDL.out; omega))
        have hsz8 : (w7.putObj D (.deferred none)).heap.size = w7.heap.size := by simp [World.putObj]
        refine ⟨A', c', by rw [← HYL.out]; rfl, by rw [← HYL.out]; exact HCC.out, ?_, ?_, ?_⟩
        · rw [hsz8, ← HYL.out]
          exact HN7.out.upperI HF7.out hkp
        · rw [← HYL.out]
          exact HF7.out.less H4.out.size
        · exact Below.trans (Below.trans H4.out (HL7.out.mono H4.out.size)) (belowK_b (w := w3) h8 _ D _ _ HD.out HK7 rfl rfl)
      · refine Lib.hid ?_
        intro x w6 cnt6 hx hlx hrg6 hlt6 hg6 hs6 hen
        have hrW := HLW.out.size
        have l6 : Low W w6 := Below.grown HLW.out hg6 hrW (fun k e => by cases e; omega)
        have HO6 : Hid (OwnN 3 w6 W.heap.size A' ys.length c' ys) := Lib.hid ⟨HO.out.1.kept hg6 (.inr (fun e => HNR.out _ e rfl)), HO.out.2⟩
        have HX0 := Lib.hid hx
        have HXL := Lib.hid (HLI.out x hlx)
        have HXN := Lib.hid (show x ∉ ys from fun h => by have := ((HIN.out x).1 h).2; rw [hlx] at this; cases this)
        have HND6 := Lib.hid (show (ys ++ [x]).Nodup by
          rw [List.nodup_append]
          exact ⟨HND.out, by simp, fun a ha b hb e => by rw [List.mem_singleton.1 hb] at e; exact HXN.out (e ▸ ha)⟩)
        have HIN6 := Lib.hid (show ∀ y, y ∈ ys ++ [x] ↔ (y ∈ L ∧ (left (.int .i64 y) && !(Lit.int .i64 y).sameKey (.int .i64 x)) = false) from fun y => by
          rw [List.mem_append, List.mem_singleton, HIN.out, sameI]
          by_cases e : y = x
          · rw [e]; simp [HXL.out]
          · have e2 : (y == x) = false := by simpa using e
            rw [e2]; simp [e])
        have HLI6 := Lib.hid (show ∀ y, (left (.int .i64 y) && !(Lit.int .i64 y).sameKey (.int .i64 x)) = true → y ∈ L from fun y h => HLI.out y (by simp at h; exact h.1))
        have HLT := Lib.hid (show (ys ++ [x]).length + cnt6 ≤ M by rw [List.length_append]; have := HSZ.out; simp; omega)
        have HME := Lib.hid (show wr.rangeLeft b0 r = cnt from HG.out.left_eq)
        have HMC := Lib.hid hlt6
        have HR6 := Lib.hid hrg6.lt
        have hlA := Low.alloc w6 (.cells #[.int .i64 x] 3)
        have hkA : BlkN (w6.alloc (.cells #[.int .i64 x] 3)) 3 w6.heap.size [x] := BlkN.new w6 3 [x]
        have hbA := hkA.bs (n := 1) (.cons hx.1 hx.2 .nil) hkA.lt rfl
        have hO7 := HO6.out.below hlA
        have HG7 := Lib.hid (hrg6.alloc (.cells #[.int .i64 x] 3))
        have HL7 := Lib.hid (Below.trans l6 (hlA.mono (Nat.le_trans (Nat.le_refl _) l6.size)))
        have hsA : (w6.alloc (.cells #[.int .i64 x] 3)).heap.size = w6.heap.size + 1 := by simp
        have hb7 : W.heap.size ≤ (w6.alloc (.cells #[.int .i64 x] 3)).heap.size := by have := l6.size; omega
        have hyl : ys.length ≤ 1000 := by have := HSZ.out; omega
        replace hsA := Lib.hid hsA
        clear HG HO HLW HSZ HND HIN HLI hlx hrg6 hlt6 hg6 l6 hkA hlA HO6 hx hs6
        go_wp2_with (at_builtin; refine wpList_append_ns rfl (.tmp 23) (.tmp 25) _ rfl W.heap.size 3 i0 Try.underlying22 HI.out HZZ0.out HZ1.out HZ2.out _ ys.length c' ys rfl hO7 _ 1 _ _ [x] rfl hbA (by omega) hb7 ?_; intro A8 c8 w8 hO8 hg8 hb8; refine Hid.out ?_)
        refine Lib.hid ?_
        have HL8 := Lib.hid (show Low W w8 from Below.grown HL7.out hg8 hb7 (fun j hj => (hO7.lt j hj).1))
        have HG8 := Lib.hid (HG7.out.kept hg8 (fun e => by have := (hO7.lt _ e.symm).1; omega) (fun e => HNR.out _ e.symm rfl))
        have HO8 := Lib.hid (show OwnN 3 w8 W.heap.size A8 (ys ++ [x]).length c8 (ys ++ [x]) by rw [List.length_append]; exact hO8)
        have HNR8 := Lib.hid (show ∀ j, (Value.slice A8 (ys ++ [x]).length c8).ownBlock = some j → j ≠ r from fun j e => by
          have e2 : (Value.slice A8 (ys.length + 1) c8).ownBlock = some j := by rw [← e, List.length_append]; rfl
          rcases hb8 with h | h
          · rw [h] at e2
            exact HNR.out j e2
          · rw [h] at e2
            injection e2 with e2
            have := HR6.out
            have := hsA.out
            simp at e2
            omega)
        clear hO8 hg8 hb8 hO7 hbA hsA HNR hrW hb7 hyl
        go_wp2_with fail
        go_roundw
        case rel => exact ⟨_, cnt6, A8, c8, ys ++ [x], by rw [List.length_append]; rfl, HG8, HO8, HNR8, HL8, HLT, HND6, HIN6, HLI6⟩
        case measure => rw [HG8.out.left_eq, HME.out]; exact HMC.out
end Go.Proofs.Ythcigbkionnmjaa
