/- Stage 19: what shift.Rows tells. Conditions: at most 200 slots each. -/
import Derived.Test.YtjmpcmgnbamniaaShJ
import Derived.OwnWalk
import Derived.Maps.AppendAt
set_option maxRecDepth 100000
namespace Go.Proofs.Ytjmpcmgnbamniaa
open Go.RowKit Go.Maps
set_option linter.unusedVariables false

/-- the range's step over a map of rows -/
theorem wpList_next_ir {P : Program} (w : World) {ops : Array Oper} {rest : List Oper} {o : Oper} {a : Act} {Q : Exit → Act → World → Prop} (hg : o.guard = none) (it : Operand) (hop : o.op = Op.next it false) (k : TypeId) (K : Keyed P k) (hk : P.underlying k = some (.int .i64))
    (b r n : Nat) (D : DataW Unit) (S : List Int) (f : Int → Rws) (hf : MapR D S f) (left : Lit → Bool) (cnt : Nat) (hit : a.eval it = .pointer (some ⟨r, 0, none⟩)) (h : w.ranges P k elemR b r n D left cnt)
    (hDone : cnt = 0 → (∀ kl, left kl = false) → wpList P ops Q rest (a.put o.dst (.tuple #[.bool false])) w)
    (hMore : ∀ (x : Int) (w' : World) (cnt' : Nat), i64ok x → left (.int .i64 x) = true → w'.ranges P k elemR b r n D (fun z => left z && !z.sameKey (.int .i64 x)) cnt' → cnt' < cnt →
      w.grownBy w' (some r) → w'.heap.size = w.heap.size → (Instr.entry (.pointer (some ⟨r, 0, none⟩))).run P w' = .ok (.tuple #[.int .i64 x, .agg (rwsC (f x)).toArray]) w' → wpList P ops Q rest (a.put o.dst (.tuple #[.bool true, .int .i64 x, .agg (rwsC (f x)).toArray])) w') :
    wpList P ops Q (o :: rest) a w :=
  wpList_next_ranges w hg it hop k K elemR (Value.int .i64) (fun r : Rws => .agg (rwsC r).toArray) (fun key kl hkey => by obtain ⟨x, rfl, _⟩ := Maps.keyOf_int_inv hk hkey; exact ⟨x, rfl⟩) (fun v y hv => by obtain ⟨r, rfl, _⟩ := elemR_inv hv; exact ⟨r, rfl⟩)
    b r n D left cnt hit h hDone (fun x c kl y w' cnt' hkey hlk hv hat hrg hlt hgr hsz hen => by
      obtain ⟨x', ex, rfl, hwx⟩ := Maps.keyOf_int_inv hk hkey
      cases ex
      rw [elemR_mk] at hv
      injection hv with hv
      have e := hf.at_ x
      rw [hat, ← hv] at e
      obtain rfl := datR_inj e
      exact hMore x w' cnt' (keyP_inv hwx) hlk hrg hlt hgr hsz hen)
theorem info_srow : (Try.prog.info? 29).map (fun i => (i.zero, i.size, i.bytes)) = some (some (.agg #[.int .i64 0, .int .i64 0, .int .i64 0, .int .i64 0]), 4, 32) := by kernel_rfl
theorem info_srow_parts : ∃ i, Try.prog.info? 29 = some i ∧ i.zero = some (.agg #[.int .i64 0, .int .i64 0, .int .i64 0, .int .i64 0]) ∧ i.size = 4 ∧ i.bytes = 32 := by
  have h := info_srow
  cases hi : Try.prog.info? 29 with
  | none => simp [hi] at h
  | some i =>
    simp [hi] at h
    exact ⟨i, rfl, h.1, h.2.1, h.2.2⟩
theorem Ns.neB {w : World} {B n : Nat} {A : Option Addr} {xs : List Int} (h : Ns w B A n xs) : 0 < n → ∀ ad, A = some ad → ad.block ≠ B := fun hn ad e => by
  obtain ⟨b, o, e', hb, _⟩ := h.mem hn
  rw [e] at e'
  injection e' with e'
  subst e'
  exact Nat.ne_of_lt hb
theorem FewR.zero_ : FewR 0 (fun _ => ⟨0, 0, 0, 0⟩) := fun y => by simp
theorem count_posR (l : List Int) (x : Int) (h : 0 < x) : (posP l).count x = l.count x := by
  unfold posP
  rw [List.count_filter (by simpa using h)]
/-- what the map tells in the end -/
def endR (was is_ : List Int) : Int → Rws := addR ⟨0, 0, 0, 1⟩ (addR ⟨0, 0, 1, 0⟩ (addR ⟨0, 1, 0, 0⟩ (fun _ => ⟨0, 0, 0, 0⟩) (posP was)) (posP is_)) (posP (bothS was is_))
theorem endR_at (was is_ : List Int) (x : Int) (h : 0 < x) : endR was is_ x = ⟨0, (was.count x : Nat), (is_.count x : Nat), ((bothS was is_).count x : Nat)⟩ := by
  unfold endR addR
  simp only [count_posR _ x h]
  simp
theorem endS (was is_ : List Int) (x : Int) : x ∈ ([] ++ posP was ++ posP is_) ++ posP (bothS was is_) ↔ x ∈ nodesP (was ++ is_) := by
  rw [(nodesP_nodes _).2]
  unfold posP
  simp only [List.nil_append, List.mem_append, List.mem_filter, decide_eq_true_eq]
  constructor
  · rintro ((⟨h1, h2⟩ | ⟨h1, h2⟩) | ⟨h1, h2⟩)
    · exact ⟨.inl h1, h2⟩
    · exact ⟨.inr h1, h2⟩
    · exact ⟨.inl ((bothS_sub1 was is_).mem h1), h2⟩
  · rintro ⟨h1 | h1, h2⟩
    · exact .inl (.inl ⟨h1, h2⟩)
    · exact .inl (.inr ⟨h1, h2⟩)
/-- rows of just these nodes, rising: the document's -/
theorem rows_one {was is_ : List Int} {l : List Rws} (hr : RiseI (l.map Rws.n)) (hm : ∀ x, x ∈ l.map Rws.n ↔ x ∈ nodesP (was ++ is_)) (he : ∀ y ∈ l, y = rwsS was is_ y.n) : l = rowsS was is_ := by
  have h1 : l.map Rws.n = nodesP (was ++ is_) := riseI_one _ _ hr (nodesP_nodes _).1 fun y => hm y
  unfold rowsS
  rw [← h1, List.map_map]
  conv => lhs; rw [← List.map_id l]
  exact List.map_congr_left fun y hy => he y hy

set_option maxRecDepth 100000 in
set_option maxHeartbeats 6400000 in
theorem shrows_any : ShRows := by
  intro A B n c k d was is_ w hn hk hnc hkd ha hb
  have hmm := @run_makeMap Try.prog
  have HA := Lib.hid ha
  have HB := Lib.hid hb
  have HLB := Lib.hid (show (bothS was is_).length ≤ 200 by have h1 := (bothS_sub1 was is_).length_le; have h2 := ha.len; omega)
  have HLA := Lib.hid ha.len
  have HLI := Lib.hid hb.len
  have HNA := Lib.hid ha.neB
  have HNB := Lib.hid hb.neB
  clear ha hb
  obtain ⟨b0, hb0⟩ : ∃ b0, b0 = w.heap.size := ⟨_, rfl⟩
  have HB0 := Lib.hid hb0
  have hm0 := World.ownsMap_made w Try.prog 3 (elemR (H := Unit))
  have hl0 := Low.alloc w (.map #[] 0)
  have hz0 : (w.alloc (.map #[] 0)).heap.size = w.heap.size + 1 := by simp
  have HM0 := Lib.hid hm0
  have HL0 := Lib.hid hl0
  have HZ0 := Lib.hid hz0
  clear hm0 hl0 hz0 hb0
  go_enter Try.func7, Try.ntmps7
  go_wp2_with fail
  clear hmm
  generalize w.alloc (.map #[] 0) = w1 at *
  rw [← HB0.out] at HM0 HNA HNB HZ0 ⊢
  have HA1 := Lib.hid (HA.out.below HL0.out)
  have HB1 := Lib.hid (HB.out.below HL0.out)
  rw [← HB0.out] at HA1 HB1
  clear HA HB
  refine (shadd_any A n c was b0 0 0 _ [] _ ⟨0, 1, 0, 0⟩ w1 hn (by omega) (by omega) ⟨by decide, by decide, by decide, by decide, by decide, by decide⟩ FewR.zero_ (HA1.out.more (by have := HZ0.out; omega)) HNA.out HM0.out MapR.empty).mono ?_
  rintro e w2 ⟨rfl, D2, ho2, hr2, hg2⟩
  have hs2 := hg2.size
  have HA2 := Lib.hid (HA1.out.grownB hg2 (by have := HZ0.out; omega) HNA.out)
  have HB2 := Lib.hid (HB1.out.grownB hg2 (by have := HZ0.out; omega) HNB.out)
  have HL2 : Hid (Low w w2) := Lib.hid (HL0.out.grown hg2 (by have := HZ0.out; have := HB0.out; omega) (fun j e => by have := HB0.out; cases e; omega))
  have HO2 := Lib.hid ho2
  have HR2 := Lib.hid hr2
  have HZ2 := Lib.hid (show b0 + 1 ≤ w2.heap.size by have := HZ0.out; omega)
  clear ho2 hr2 hg2 hs2 HA1 HB1 HL0 HM0 HZ0
  have HF2 := Lib.hid (FewR.add_ (k := 0) (j := 200) (h := fun _ => ⟨0, 0, 0, 0⟩) FewR.zero_ (more := ⟨0, 1, 0, 0⟩) ⟨by decide, by decide, by decide, by decide, by decide, by decide⟩ (l := posP was) (Nat.le_trans (posP_len _) (by rw [HLA.out]; exact hn)))
  go_wp2_with fail
  refine (shadd_any B k d is_ b0 (0 + n) _ D2 _ _ ⟨0, 0, 1, 0⟩ w2 hk (by omega) (by omega) ⟨by decide, by decide, by decide, by decide, by decide, by decide⟩ HF2.out (HB2.out.more (by have := HZ2.out; omega)) HNB.out HO2.out HR2.out).mono ?_
  rintro e w3 ⟨rfl, D3, ho3, hr3, hg3⟩
  have hs3 := hg3.size
  have HA3 := Lib.hid (HA2.out.grownB hg3 (by have := HZ2.out; omega) HNA.out)
  have HB3 := Lib.hid (HB2.out.grownB hg3 (by have := HZ2.out; omega) HNB.out)
  have HL3 : Hid (Low w w3) := Lib.hid (HL2.out.grown hg3 (by have := HZ2.out; have := HB0.out; omega) (fun j e => by have := HB0.out; cases e; omega))
  have HO3 := Lib.hid ho3
  have HR3 := Lib.hid hr3
  have HZ3 := Lib.hid (show b0 + 1 ≤ w3.heap.size by have := HZ2.out; omega)
  have HF3 := Lib.hid (FewR.add_ (k := 0 + 200) (j := 200) HF2.out (more := ⟨0, 0, 1, 0⟩) ⟨by decide, by decide, by decide, by decide, by decide, by decide⟩ (l := posP is_) (Nat.le_trans (posP_len _) (by rw [HLI.out]; exact hk)))
  clear ho3 hr3 hg3 hs3 HA2 HB2 HL2 HO2 HR2 HZ2
  go_wp2_with fail
  refine (stayed_any A B n c k d was is_ w3 hn hk (HA3.out.more (by have := HZ3.out; omega)) (HB3.out.more (by have := HZ3.out; omega))).mono ?_
  rintro e w4 ⟨A4, c4, rfl, _, hn4, hf4, hl4⟩
  have HN4 := Lib.hid hn4
  have HNE4 := Lib.hid (show 0 < (bothS was is_).length → ∀ ad, A4 = some ad → ad.block ≠ b0 from fun hp ad e => by
    obtain ⟨b', o', e', hlo⟩ := hf4 hp
    rw [e] at e'
    injection e' with e'
    subst e'
    have := HZ3.out
    show b' ≠ b0
    omega)
  have HO4 := Lib.hid (heapP HO3.out (hl4.block b0 (by have := HZ3.out; omega)))
  have HL4 := Lib.hid (HL3.out.trans hl4)
  have HZ4 := Lib.hid (show b0 + 1 ≤ w4.heap.size by have := HZ3.out; have := hl4.size; omega)
  clear hn4 hf4 hl4 HA3 HB3 HL3 HO3 HZ3
  go_wp2_with fail
  refine (shadd_any A4 _ c4 (bothS was is_) b0 (0 + n + k) _ D3 _ _ ⟨0, 0, 0, 1⟩ w4 HLB.out (by omega) (by omega) ⟨by decide, by decide, by decide, by decide, by decide, by decide⟩ HF3.out HN4.out HNE4.out HO4.out HR3.out).mono ?_
  rintro e w5 ⟨rfl, D5, ho5, hr5, hg5⟩
  have HL5 : Hid (Low w w5) := Lib.hid (HL4.out.grown hg5 (by have := HZ4.out; have := HB0.out; omega) (fun j e => by have := HB0.out; cases e; omega))
  have HZ5 := Lib.hid (show b0 + 1 ≤ w5.heap.size by have := HZ4.out; have := hg5.size; omega)
  have HR5 := Lib.hid (show MapR D5 _ (endR was is_) from hr5)
  have HES := Lib.hid (endS was is_)
  have HO5 := Lib.hid ho5
  have hmle := ho5.size_le
  generalize hSS : ([] ++ posP was ++ posP is_) ++ posP (bothS was is_) = SS at *
  clear ho5 hr5 hg5 HL4 HZ4 HO4 HN4 HNE4 HF2 HF3 HR3 hSS
  obtain ⟨M, hM⟩ : ∃ M, M = Maps.size D5 := ⟨_, rfl⟩
  have HM := Lib.hid hM
  have hm2 : M ≤ 600 := by have := HLB.out; omega
  obtain ⟨NN, hNN⟩ : ∃ q, q = 0 + n + k + (bothS was is_).length := ⟨_, rfl⟩
  rw [← hNN] at HO5
  clear hM hmle hNN
  obtain ⟨i0, hi, hz0, hz1, hz2⟩ := info_srow_parts
  have HI := Lib.hid hi
  have HY0 := Lib.hid hz0
  have HY1 := Lib.hid hz1
  have HY2 := Lib.hid hz2
  clear hi hz0 hz1 hz2
  go_wp2_with (first
    | (at_len; refine wpList_len_own w5 rfl _ 38 rfl 3 29 Try.underlying38 elemR b0 NN D5 rfl HO5.out ?_; rw [← HM.out])
    | (refine wpList_make_own w5 rfl (.const (.int .i64 0)) (.tmp 25) 24 rfl w5.heap.size 29 i0 _ 4 Try.underlying24 HI.out HY0.out HY1.out .i64 .i64 (M : Int) M rfl rfl rfl (by rw [HY2.out]; omega) (by simp only [maxLen]; omega) (Nat.le_refl _) ?_; intro w6 hr6 hg6; refine Hid.out ?_))
  refine Lib.hid ?_
  have l6 : Low w5 w6 := Below.grown (Low.refl w5) hg6 (Nat.le_refl _) (fun k e => by cases e)
  have HR6 : Hid (OwnE rwsE 29 w6 w5.heap.size (some ⟨w5.heap.size, 0, none⟩) 0 M []) := Lib.hid ⟨hr6, Elt.all_nil, rfl⟩
  have H26 := Lib.hid (heapP HO5.out (l6.block b0 (by have := HZ5.out; omega)))
  have hlt6 := (HR6.out.lt w5.heap.size rfl).2
  have HL6 := Lib.hid l6
  clear hr6 hg6 l6 HO5
  go_wp2_with (at_range; refine wpList_range_own w6 rfl _ 38 rfl 3 29 keyedP Try.underlying38 elemR b0 NN D5 rfl H26.out ?_; rw [← HM.out]; intro w7 hrg7 hg7 hs7; refine Hid.out ?_)
  refine Lib.hid ?_
  obtain ⟨r, hr⟩ : ∃ r, r = w6.heap.size := ⟨_, rfl⟩
  rw [← hr] at hrg7 hs7 ⊢
  have l7 : Low w6 w7 := Below.grown (Low.refl w6) hg7 (Nat.le_refl _) (fun k e => by cases e)
  have HR7 := Lib.hid (HR6.out.below l7)
  have HL7 := Lib.hid (Below.trans HL6.out (l7.mono (HL6.out.size)))
  have HG7 := Lib.hid hrg7
  have hWr : w5.heap.size < r := by omega
  have HWR := Lib.hid hWr
  clear hg7 l7 HR6 HL6 H26 hrg7 hs7 hr hlt6 hWr
  go_wp2_with fail
  go_loopw [6] (fun v6 wr => ∃ (left : Lit → Bool) (cnt : Nat) (A' : Option Addr) (c' : Nat) (ys : List Rws), v6 = .slice A' ys.length c' ∧ Hid (wr.ranges Try.prog 3 (elemR (H := Unit)) b0 r NN D5 left cnt) ∧ Hid (OwnE rwsE 29 wr w5.heap.size A' ys.length c' ys) ∧ Hid (∀ j, (Value.slice A' ys.length c').ownBlock = some j → j ≠ r) ∧ Hid (Low w5 wr) ∧ Hid (ys.length + cnt ≤ M) ∧ Hid ((ys.map Rws.n).Nodup) ∧ Hid (∀ x, x ∈ ys.map Rws.n ↔ (x ∈ SS ∧ left (.int .i64 x) = false)) ∧ Hid (∀ x, left (.int .i64 x) = true → x ∈ SS) ∧ Hid (∀ y ∈ ys, y = rwsS was is_ y.n)) (fun _ wr => wr.rangeLeft b0 r)
  case atStart =>
    exact ⟨Maps.has D5, M, some ⟨w5.heap.size, 0, none⟩, M, [], rfl, HG7, HR7, Lib.hid (fun j e => by have := HWR.out; simp [Value.ownBlock] at e; omega), HL7, Lib.hid (by simp), Lib.hid List.nodup_nil, Lib.hid (fun x => by rw [HR5.out.has_]; simp), Lib.hid (fun x h => by rw [HR5.out.has_] at h; simpa using h), Lib.hid (fun y hy => by cases hy)⟩
  case round =>
    clear HG7 HR7 HL7
    obtain ⟨left, cnt, A', c', ys, rfl, HG, HO, HNR, HLW, HSZ, HND, HIN, HLF, HEQ⟩ := hrel
    go_wp2_with (at_next; refine wpList_next_ir wr rfl _ rfl 3 keyedP Try.underlying3 b0 r NN D5 SS (endR was is_) HR5.out left cnt rfl HG.out ?_ ?_ <;> refine Hid.out ?_)
    · refine Lib.hid ?_
      intro hc0 hl0
      have HLL := Lib.hid hl0
      clear hc0 hl0
      go_wp2_with fail
      have hyl : ys.length ≤ 1000 := by have := HSZ.out; omega
      refine (sortfuncR_any A' ys.length c' w5.heap.size ys wr hyl HO.out HND.out).mono ?_
      rintro e w8 ⟨rfl, l', hes, hpm, hri, hl8⟩
      have HE := Lib.hid (show l' = rowsS was is_ from rows_one hri (fun x => by rw [(hpm.map Rws.n).mem_iff, HIN.out, ← HES.out]; simp [HLL.out]) (fun y hy => HEQ.out y (hpm.mem_iff.1 hy)))
      have HYL := Lib.hid (show ys.length = (rowsS was is_).length by rw [← HE.out]; exact hpm.length_eq.symm)
      have HL8 := Lib.hid (HL5.out.trans (Below.trans HLW.out hl8))
      have HS8 := Lib.hid hes
      clear hes hpm hri hl8 hyl
      go_wp2_with fail
      go_ret
      exact ⟨A', c', by rw [← HYL.out]; rfl, by rw [← HYL.out, ← HE.out]; exact HS8.out, HL8.out⟩
    · refine Lib.hid ?_
      intro x w8 cnt8 hx hlx hrg8 hlt8 hg8 hs8 hen
      have hrW := HLW.out.size
      have l8 : Low w5 w8 := Below.grown HLW.out hg8 hrW (fun k e => by have := HWR.out; cases e; omega)
      have HO8 : Hid (OwnE rwsE 29 w8 w5.heap.size A' ys.length c' ys) := Lib.hid ⟨HO.out.1.kept hg8 (.inr (fun e => HNR.out _ e rfl)), HO.out.2⟩
      have HXS := Lib.hid (HLF.out x hlx)
      have HXP := Lib.hid (show 0 < x from (((nodesP_nodes (was ++ is_)).2 x).1 ((HES.out x).1 HXS.out)).2)
      have HF := Lib.hid (endR_at was is_ x HXP.out)
      have HXN := Lib.hid (show x ∉ ys.map Rws.n from fun h => by have := ((HIN.out x).1 h).2; rw [hlx] at this; cases this)
      have HX0 := Lib.hid hx
      obtain ⟨p1, hp1⟩ : ∃ p : Int, p = (was.count x : Nat) := ⟨_, rfl⟩
      obtain ⟨p2, hp2⟩ : ∃ p : Int, p = (is_.count x : Nat) := ⟨_, rfl⟩
      obtain ⟨p3, hp3⟩ : ∃ p : Int, p = ((bothS was is_).count x : Nat) := ⟨_, rfl⟩
      have HRW := Lib.hid (show rwsS was is_ x = ⟨x, p1, p2, p3⟩ by rw [hp1, hp2, hp3]; rfl)
      rw [← hp1, ← hp2, ← hp3] at HF
      rw [HF.out] at hen ⊢
      clear hp1 hp2 hp3 HF
      have HND8 := Lib.hid (show ((ys ++ [(⟨x, p1, p2, p3⟩ : Rws)]).map Rws.n).Nodup by
        rw [List.map_append, List.map_singleton, List.nodup_append]
        exact ⟨HND.out, by simp, fun a ha b hb e => by rw [List.mem_singleton.1 hb] at e; rw [e] at ha; exact HXN.out ha⟩)
      have HIN8 := Lib.hid (show ∀ y, y ∈ (ys ++ [(⟨x, p1, p2, p3⟩ : Rws)]).map Rws.n ↔ (y ∈ SS ∧ (left (.int .i64 y) && !(Lit.int .i64 y).sameKey (.int .i64 x)) = false) from fun y => by
        rw [List.map_append, List.map_singleton, List.mem_append, List.mem_singleton, HIN.out, sameI]
        by_cases e : y = x
        · rw [e]; simp [HXS.out]
        · have e2 : (y == x) = false := by simpa using e
          rw [e2]; simp [e])
      have HLF8 := Lib.hid (show ∀ y, (left (.int .i64 y) && !(Lit.int .i64 y).sameKey (.int .i64 x)) = true → y ∈ SS from fun y h => HLF.out y (by simp at h; exact h.1))
      have HEQ8 := Lib.hid (show ∀ y ∈ ys ++ [(⟨x, p1, p2, p3⟩ : Rws)], y = rwsS was is_ y.n from fun y hy => by
        rcases List.mem_append.1 hy with hy | hy
        · exact HEQ.out y hy
        · rw [List.mem_singleton.1 hy]
          exact HRW.out.symm)
      have HLT := Lib.hid (show (ys ++ [(⟨x, p1, p2, p3⟩ : Rws)]).length + cnt8 ≤ M by rw [List.length_append]; have := HSZ.out; simp; omega)
      have HME := Lib.hid (show wr.rangeLeft b0 r = cnt from HG.out.left_eq)
      have HMC := Lib.hid hlt8
      have HRL := Lib.hid hrg8.lt
      have HG8 := Lib.hid hrg8
      have HL8 := Lib.hid l8
      have hyl : ys.length ≤ 1000 := by have := HSZ.out; omega
      clear HG HO HLW HSZ HND HIN HLF HEQ HRW hlx hrg8 hlt8 hg8 l8 hs8 hrW HXN HXP HXS hx
      go_wp2_with ((with_reducible refine wpList_alloc_v rfl _ rfl (rwsC ⟨0, 0, 0, 0⟩) srow_zero ?_); intro w9 HZ hl9 hz9; refine Hid.out ?_)
      refine Lib.hid ?_
      go_wp2_with ((refine wpList_store_v rfl 29 (.tmp 8) (.tmp 33) rfl w8.heap.size rfl (rwsC ⟨0, p1, p2, p3⟩) rfl _ (rwsC ⟨0, 0, 0, 0⟩) HZ rfl srow_size (rwsC_one _) ?_); intro wA HBA hbA hzA; refine Hid.out ?_)
      refine Lib.hid ?_
      have hlA : Low w8 wA := Below.trans hl9 (hbA.mono (Nat.le_refl _))
      have d1 : wA.cell? ⟨w8.heap.size, 1, none⟩ = some (.int .i64 p1) := HBA.cell 1
      have d2 : wA.cell? ⟨w8.heap.size, 2, none⟩ = some (.int .i64 p2) := HBA.cell 2
      have d3 : wA.cell? ⟨w8.heap.size, 3, none⟩ = some (.int .i64 p3) := HBA.cell 3
      have HGA := Lib.hid (HG8.out.kept (show w8.grownBy wA none from ⟨hlA.os, hlA.tape, hlA.output, hlA.size, fun j hj _ => hlA.block j hj⟩) (fun e => by cases e) (fun e => by cases e))
      have HLA8 := Lib.hid (Below.trans HL8.out (hlA.mono HL8.out.size))
      have HOA := Lib.hid (HO8.out.below hlA)
      have hkA := Low.alloc wA (.cells (rwsC ⟨x, p1, p2, p3⟩).toArray 29)
      have hbs := Es.one_ (E := rwsE) wA 29 ⟨x, p1, p2, p3⟩ trivial (B := (wA.alloc (.cells (rwsC ⟨x, p1, p2, p3⟩).toArray 29)).heap.size) (by simp)
      have hO7 := HOA.out.below hkA
      have HGB := Lib.hid (HGA.out.alloc (.cells (rwsC ⟨x, p1, p2, p3⟩).toArray 29))
      have HLB8 := Lib.hid (Below.trans HLA8.out (hkA.mono HLA8.out.size))
      have hsB : (wA.alloc (.cells (rwsC ⟨x, p1, p2, p3⟩).toArray 29)).heap.size = wA.heap.size + 1 := by simp
      have hbB : w5.heap.size ≤ (wA.alloc (.cells (rwsC ⟨x, p1, p2, p3⟩).toArray 29)).heap.size := by have := HLA8.out.size; omega
      have HSB := Lib.hid hsB
      have HRA := Lib.hid (show r < wA.heap.size from Nat.lt_of_lt_of_le HRL.out hlA.size)
      generalize hg8e : w8.heap.size = g8 at d1 d2 d3 ⊢
      clear HZ hl9 hz9 HBA hbA hzA hlA HG8 HL8 HO8 HGA HLA8 HOA hkA hsB HRL hg8e
      go_wp2_with (at_builtin; refine wpList_append_es (E := rwsE) rfl _ _ _ rfl w5.heap.size 29 i0 _ 32 Try.underlying24 HI.out HY0.out HY1.out rfl HY2.out _ ys.length c' ys rfl hO7 _ 1 _ _ [⟨x, p1, p2, p3⟩] rfl hbs (by omega) (by omega) hbB ?_; intro AB cB wB hOB hgB hbb; refine Hid.out ?_)
      refine Lib.hid ?_
      have HLC := Lib.hid (show Low w5 wB from Below.grown HLB8.out hgB hbB (fun j hj => (hO7.lt j hj).1))
      have HGC := Lib.hid (HGB.out.kept hgB (fun e => by have := (hO7.lt _ e.symm).1; have := HZ5.out; omega) (fun e => HNR.out _ e.symm rfl))
      have HOC := Lib.hid (show OwnE rwsE 29 wB w5.heap.size AB (ys ++ [(⟨x, p1, p2, p3⟩ : Rws)]).length cB (ys ++ [⟨x, p1, p2, p3⟩]) by rw [List.length_append]; exact hOB)
      have HNRC := Lib.hid (show ∀ j, (Value.slice AB (ys ++ [(⟨x, p1, p2, p3⟩ : Rws)]).length cB).ownBlock = some j → j ≠ r from fun j e => by
        have e2 : (Value.slice AB (ys.length + 1) cB).ownBlock = some j := by rw [← e, List.length_append]; rfl
        rcases hbb with h | h
        · rw [h] at e2
          exact HNR.out j e2
        · rw [h] at e2
          injection e2 with e2
          have h9 := HRA.out
          have h10 : wA.heap.size + 1 = j := HSB.out.symm.trans e2
          omega)
      clear hOB hgB hbb hO7 hbs hbB hyl HNR HGB HLB8 HRA HSB d1 d2 d3
      go_wp2_with fail
      go_roundw
      case rel => exact ⟨_, cnt8, AB, cB, ys ++ [⟨x, p1, p2, p3⟩], by rw [List.length_append]; rfl, HGC, HOC, HNRC, HLC, HLT, HND8, HIN8, HLF8, HEQ8⟩
      case measure => rw [HGC.out.left_eq, HME.out]; exact HMC.out
end Go.Proofs.Ytjmpcmgnbamniaa
