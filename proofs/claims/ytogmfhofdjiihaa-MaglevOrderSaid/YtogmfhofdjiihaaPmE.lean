/- Stage 16: what perm.Of answers: the order in which a node takes the slots. Conditions: nodes and sizes are ints. -/
import Derived.Test.YtogmfhofdjiihaaPmD
import Derived.Test.YtogmfhofdjiihaaJReg
import Derived.RangeFuncNested
import Derived.RangeFuncCalls
import Derived.RangeFuncLeaves
import Derived.OwnWalk
import Derived.Maps.AppendAt
import Derived.OwnWalkIn
import Derived.TacticsInMore
import Derived.LoopNIn
import Derived.LoopIn
set_option maxRecDepth 100000
namespace Go.Proofs.Ytogmfhofdjiihaa
open Go.RowKit
set_option linter.unusedVariables false
attribute [local go_sem] Oper.semAt_some

/-- n blocks from B on stay as they are -/
def KeepsAt (B n : Nat) (W W' : World) : Prop := ∀ k, B ≤ k → k < B + n → W'.heap[k]? = W.heap[k]?
theorem KeepsAt.refl (B n : Nat) (W : World) : KeepsAt B n W W := fun _ _ _ => rfl
theorem KeepsAt.trans {B n : Nat} {X Y Z : World} (h : KeepsAt B n X Y) (k : KeepsAt B n Y Z) : KeepsAt B n X Z := fun i h0 h1 => (k i h0 h1).trans (h i h0 h1)
theorem KeepsAt.blkv {B n : Nat} {X Y : World} {t : TypeId} {g : Nat} {vs : List Value} (h : KeepsAt B n X Y) (hb : BlkV X t g vs) (h0 : B ≤ g) (h1 : g < B + n) : BlkV Y t g vs := (h g h0 h1).trans hb

section
variable {t : TypeId} {W W' : World} {row : Option Nat}
theorem BlkV.keptC {g : Nat} {vs : List Value} (h : BlkV W t g vs) (hg : W.grownBy W' row) (hr : ∀ r, row = some r → ∃ o : Obj, W.heap[r]? = some o ∧ o.isCells = false) : BlkV W' t g vs :=
  (grownBy_keeps_cells hg hr h rfl).trans h
theorem OwnN.keptC {base n c : Nat} {A : Option Addr} {ys : List Int} (h : OwnN t W base A n c ys) (hg : W.grownBy W' row) (hr : ∀ r, row = some r → ∃ o : Obj, W.heap[r]? = some o ∧ o.isCells = false) : OwnN t W' base A n c ys := by
  refine ⟨⟨h.1.1, ?_⟩, h.2⟩
  rcases h.1.2 with e | ⟨g, cap, cur, e, hbg, hgg, r⟩
  · exact .inl e
  · exact .inr ⟨g, cap, cur, e, hbg, (grownBy_keeps_cells hg hr hgg rfl).trans hgg, r⟩
theorem OwnN.cellsRow {base n c k : Nat} {A : Option Addr} {ys : List Int} (h : OwnN t W base A n c ys) (hk : (Value.slice A n c).ownBlock = some k) {o : Obj} (ho : W.heap[k]? = some o) : o.isCells = true := by
  rcases h.1.2 with ⟨e, _⟩ | ⟨g, cap, cur, e, _, hgg, _⟩
  · injection e with e1
    subst e1
    cases hk
  · injection e with e1
    subst e1
    have : g = k := by simpa [Value.ownBlock] using hk
    subst this
    rw [hgg] at ho
    cases ho
    rfl
theorem OwnN.full {t : TypeId} {W : World} {base n b : Nat} {ys : List Int} (h : OwnN t W base (some ⟨b, 0, none⟩) n n ys) (hn : 0 < n) : BlkN W t b ys := by
  rcases h.1.2 with ⟨e, h0⟩ | ⟨g, cap, cur, e, _, hg, _, _, hs, ht⟩
  · omega
  · injection e with e1 _ e3
    injection e1 with e1
    injection e1 with e1 _ _
    subst e1 e3
    rw [List.take_of_length_le (by simp [hs])] at ht
    unfold BlkN
    rw [hg, ← ht]
theorem AllI.snocP {xs : List Nat} {f : Nat → Nat} {x : Nat} (h : AllI (xs.map fun i => (f i : Int))) (h0 : -9223372036854775808 ≤ (f x : Int)) (h1 : (f x : Int) ≤ 9223372036854775807) : AllI ((xs ++ [x]).map fun i => (f i : Int)) := by
  rw [List.map_append]
  exact h.append (.cons h0 h1 .nil)
end

/-- a range over a function whose values come one by one, of which no round leaves: the loop's variable is one temporary -/
theorem wpIn_seq_q {α : Type} {P : Program} {n : Nat} {g : Operand} {ps : Array Tmp} {assign body : Code} {Q : Exit → Act → World → Prop} {T : Array Value} {ds : List Deferred} {w : World} {gf : Nat} {lb : Array Value}
    (hg : Act.eval ⟨T, ds⟩ g = .func (.func gf) #[] lb) (eg : ∀ args w, (callFunc gf args).run P w = .ok (.enter gf args) w) (h1 : 1 ≤ n)
    {enc : α → Value} {Kp : World → World → Prop} {S Sp : List α → Prop} {N : Nat} {w0 : World} (hseq : SeqStopsK Fence.wide (n - 1) P gf lb (fun x => #[enc x]) Kp S Sp N w0)
    (hKt : ∀ {A B C : World}, Kp A B → Kp B C → Kp A C) (hKb : ∀ (W : World) (l : Nat) (o o' : Obj), w.heap.size ≤ l → W.heap[l]? = some o → o.isCells = false → o.isWalk = false → Kp W (W.putObj l o')) (hb0 : Below w0.heap.size w0 w)
    (p q : Tmp) (hps : ps = #[p]) (I : List α → World → Prop) (hI : OwnFrom w.heap.size I) (h0 : I [] w)
    (hassign : ∀ (l : Nat) (v : Value) (W : World) (K : Act → World → Prop), K ⟨(T.setIfInBounds p v).setIfInBounds q v, []⟩ W →
      assign.wpIn (Fence.wide.inRound l) (n - 1 - 1) P (Exit.then K (fun _ _ _ => False)) ⟨T.setIfInBounds p v, []⟩ W)
    (hbody : ∀ (l : Nat) (pre : List α) (x : α) (W : World), I pre W → pre.length < N →
      body.wpIn (Fence.wide.inRound l) (n - 1 - 1) P (ownPostK Kp I (fun _ _ _ => False) (pre ++ [x]) W) ⟨(T.setIfInBounds p (enc x)).setIfInBounds q (enc x), []⟩ W)
    (hdone : ∀ (D : Nat) (xs : List α) (W : World), w.heap.size ≤ D → S xs → I xs W → W.heap[D]? = some (.deferred (some [])) → Q .normal ⟨T, { target := .collected D, args := #[] } :: ds⟩ W) :
    (Code.rangeFunc g ps assign body).wpIn Fence.wide n P Q ⟨T, ds⟩ w := by
  subst hps
  exact wpIn_rangeFunc_ownF rfl h1 hg trivial eg hseq hKt hKb hb0 (fun _ => rfl) I (fun _ _ _ => False) hI (fun _ _ _ _ _ h _ _ => h) h0 (fun x => ⟨(T.setIfInBounds p (enc x)).setIfInBounds q (enc x), []⟩)
    (fun l x W K hK => by have h := hassign l (enc x) W K hK; simpa using h) hbody hdone (fun _ _ _ _ _ _ h _ => h.elim)

set_option maxHeartbeats 400000 in
theorem steps_any (f s m : Int) (w : World) : Calls Try.prog 36 #[.int .i64 f, .int .i64 s, .int .i64 m] w fun e w' =>
    e = .returned (.func (.func 50) #[] #[.pointer (some ⟨w.heap.size, 0, none⟩), .pointer (some ⟨w.heap.size + 2, 0, none⟩), .pointer (some ⟨w.heap.size + 1, 0, none⟩)]) ∧
      BlkV w' 3 w.heap.size [.int .i64 f] ∧ BlkV w' 3 (w.heap.size + 1) [.int .i64 s] ∧ BlkV w' 3 (w.heap.size + 2) [.int .i64 m] ∧ w'.heap.size = w.heap.size + 3 ∧ Low w w' := by
  have k1 := BlkV.new w 3 [.int .i64 f]
  have k2 := BlkV.new (w.alloc (.cells #[.int .i64 f] 3)) 3 [.int .i64 s]
  have k3 := BlkV.new ((w.alloc (.cells #[.int .i64 f] 3)).alloc (.cells #[.int .i64 s] 3)) 3 [.int .i64 m]
  have l1 := Low.alloc w (.cells #[.int .i64 f] 3)
  have l2 := Low.alloc (w.alloc (.cells #[.int .i64 f] 3)) (.cells #[.int .i64 s] 3)
  have l3 := Low.alloc ((w.alloc (.cells #[.int .i64 f] 3)).alloc (.cells #[.int .i64 s] 3)) (.cells #[.int .i64 m] 3)
  simp only [World.size_alloc] at k2 k3
  have H1 := Lib.hid ((k1.alloc (.cells #[.int .i64 s] 3)).alloc (.cells #[.int .i64 m] 3))
  have H2 := Lib.hid (k2.alloc (.cells #[.int .i64 m] 3))
  have H3 := Lib.hid k3
  have HL := Lib.hid ((Low.trans l1 l2).trans l3)
  clear k1 k2 k3 l1 l2 l3
  go_enter Try.func36, Try.ntmps36
  go_wp2_with fail
  go_ret
  exact ⟨by simp, H1.out, H2.out, H3.out, by simp, HL.out⟩

set_option maxRecDepth 100000 in
set_option maxHeartbeats 1600000 in
theorem steps1_any (k : Nat) (hk : 1 ≤ k) (f : Nat → Nat) (s M B : Nat) (hM0 : 2 ≤ M) (hM1 : M ≤ 1000) (hf : ∀ i, f (i + 1) = (f i + s) % M) (hlt : ∀ i, f i < M) (hs : s < M) (w : World)
    (h1 : BlkV w 3 B [.int .i64 (f 0)]) (h2 : BlkV w 3 (B + 1) [.int .i64 s]) (h3 : BlkV w 3 (B + 2) [.int .i64 M]) :
    SeqStopsK (α := Nat) Fence.wide k Try.prog 50 #[.pointer (some ⟨B, 0, none⟩), .pointer (some ⟨B + 2, 0, none⟩), .pointer (some ⟨B + 1, 0, none⟩)] (fun x => #[.int .i64 (f x)]) (KeepsAt B 3) (fun xs => xs = List.range M) (fun _ => True) M w := by
  intro l J Jx W hW hJ hJx hY h0
  have H1 := Lib.hid (h1.below hW h1.lt)
  have H2 := Lib.hid (h2.below hW h2.lt)
  have H3 := Lib.hid (h3.below hW h3.lt)
  have c1 : W.cell? ⟨B, 0, none⟩ = some (.int .i64 (f 0)) := by rw [H1.out.cell 0]; rfl
  have c3 : W.cell? ⟨B + 2, 0, none⟩ = some (.int .i64 M) := by rw [H3.out.cell 0]; rfl
  have HF := Lib.hid hf
  have HLT := Lib.hid hlt
  clear h1 h2 h3 hW hJ hJx hf hlt
  have hmz : ¬ (M : Int) = 0 := by omega
  refine callsIn_of_wp Try.func50 rfl trivial ?_ rfl
  simp only [Try.ntmps50, List.size_toArray, List.length_cons, List.length_nil, Nat.reduceAdd, Nat.reduceSub, Array.replicate_succ, Array.replicate_zero, List.push_toArray, List.append_toArray, List.nil_append, List.cons_append]
  gi_wp2
  clear c1 c3
  gi_loopw [5, 8] (fun v5 v8 wr => ∃ i : Nat, i ≤ M ∧ v8 = .int .i64 i ∧ v5 = .int .i64 (f i) ∧ J (List.range i) wr ∧ KeepsAt B 3 W wr) (fun _ v8 _ => M - (intOf v8).toNat)
  case atStart => exact ⟨0, Nat.zero_le _, rfl, rfl, h0, KeepsAt.refl _ _ _⟩
  case round =>
    obtain ⟨i, hi, rfl, rfl, hj, hB⟩ := hrel
    by_cases him : i < M
    · have him2 : (i : Int) < M := by omega
      obtain ⟨fn, tmps, assign, body, hy, hR⟩ := hY (List.range i) i wr hj (by simp; omega)
      have hx := HLT.out i
      have hx1 := HLT.out (i + 1)
      have he := HF.out i
      generalize f i = x at *
      obtain ⟨y, hyy⟩ : ∃ y, y = f (i + 1) := ⟨_, rfl⟩
      rw [← hyy] at hx1 he
      have HY := Lib.hid hyy
      clear hyy
      have hw : wrap64 ((x : Int) + (s : Int)) = (x : Int) + (s : Int) := wrap64_inP _ (by omega) (by omega)
      have ht : ((x : Int) + (s : Int)).tmod (M : Int) = (y : Int) := by
        rw [show (x : Int) + (s : Int) = ((x + s : Nat) : Int) by simp, he, Int.ofNat_tmod]
      have HE := Lib.hid he
      clear he hj
      gi_wp2
      refine hR.mono ?_
      rintro e W3 (⟨rfl, hj3, hk3⟩ | ⟨rfl, hx3⟩)
      · have hB3 := hB.trans hk3
        have b2 := hB3.blkv H2.out (by omega) (by omega)
        have b3 := hB3.blkv H3.out (by omega) (by omega)
        have c2 : W3.cell? ⟨B + 1, 0, none⟩ = some (.int .i64 s) := by rw [b2.cell 0]; rfl
        have c3 : W3.cell? ⟨B + 2, 0, none⟩ = some (.int .i64 M) := by rw [b3.cell 0]; rfl
        clear hk3 b2 b3 hR hy hY hB
        gi_wp2
        go_roundw
        case rel => exact ⟨i + 1, by omega, by go_num, by rw [← HY.out], by rw [List.range_succ]; exact hj3, hB3⟩
        case measure => simp [intOf]; omega
      · gi_wp2
        refine bodyPost_ret (results_none rfl _ _ _) rfl ?_
        exact ⟨⟨_, rfl⟩, .inr ⟨_, trivial, hx3⟩⟩
    · obtain rfl : i = M := by omega
      gi_wp2
      go_end0
      exact ⟨⟨_, rfl⟩, .inl ⟨_, rfl, hj⟩⟩

theorem cellsN_snoc (g : Nat → Nat) (pre : List Nat) (x : Nat) : cellsN (pre.map fun i => (g i : Int)) ++ [.int .i64 (g x)] = cellsN ((pre ++ [x]).map fun i => (g i : Int)) := by
  rw [List.map_append, cellsN_append]
  rfl

set_option maxRecDepth 100000 in
set_option maxHeartbeats 3200000 in
theorem permof_own (a b node : Int) (M : Nat) (hM0 : 2 ≤ M) (hM1 : M ≤ 1000) (hn : i64ok node) (w : World) :
    Calls Try.prog 29 #[keyV a b, .int .i64 node, .int .i64 M] w fun e w' => ∃ q, e = .returned (.slice (some ⟨q, 0, none⟩) M M) ∧ BlkN w' 3 q (ordP a b node M) ∧ AllI (ordP a b node M) ∧ w.heap.size ≤ q ∧ Low w w' := by
  unfold keyV
  have hT : tableB (M : Int) = true := decide_eq_true (by omega)
  have HOR := Lib.hid (show ordP a b node M = (List.range M).map fun i => (atP a b node M i : Int) from ordP_some hT)
  have HLN := Lib.hid (show (ordP a b node M).length = M from ordP_len hT)
  have HQO := Lib.hid (show offQ a b node M = (atP a b node M 0 : Int) by unfold offQ; rw [hT, atP_zero a b node M hM0]; rfl)
  have HQS := Lib.hid (show skipQ a b node M = (skipP a b node M : Int) by unfold skipQ; rw [hT]; rfl)
  have HST := Lib.hid (atP_succ a b node M)
  have HLT := Lib.hid (fun i => atP_range a b node M i hM0)
  have HSK := Lib.hid (skipP_range a b node M hM0).2
  have HT := Lib.hid hT
  have hm : i64ok (M : Int) := by unfold i64ok; omega
  have HOF := Lib.hid (fun w => pmoffset_any a b node M w hn hm)
  have HSF := Lib.hid (fun w => pmskip_any a b node M w hn hm)
  rw [HQO.out] at HOF
  rw [HQS.out] at HSF
  obtain ⟨i0, hi, hz0, hz1, hz2⟩ := info_int_partsP
  have HI := Lib.hid hi
  have HZ0 := Lib.hid hz0
  have HZ1 := Lib.hid hz1
  have HZ2 := Lib.hid hz2
  clear hi hz0 hz1 hz2 hm hT hn
  generalize skipP a b node M = s at *
  generalize hgf : atP a b node M = f at *
  generalize ordP a b node (M : Int) = L at *
  refine (callsIn_wide (n := 5)).1 ?_
  refine callsIn_of_wp_marks Try.func29 rfl trivial ?_ rfl
  simp only [Try.ntmps29, List.size_toArray, List.length_cons, List.length_nil, Nat.reduceAdd, Nat.reduceSub, Array.replicate_succ, Array.replicate_zero, List.push_toArray, List.append_toArray, List.nil_append, List.cons_append]
  refine wpIn_wide.2 ?_
  go_wp2_with ((with_reducible refine wpList_box_v rfl _ (.tmp 0) rfl (keyC a b) rfl ?_); intro w1 HK hL hz1; refine Hid.out ?_)
  refine Lib.hid ?_
  replace HK := Lib.hid HK
  replace hL := Lib.hid hL
  go_wp2_with fail
  refine (permcan_any M w1).mono ?_
  rintro e w2 ⟨rfl, rfl⟩
  rw [HT.out]
  go_wp2_with (refine wpList_make_own w1 rfl (.const (.int .i64 0)) (.tmp 12) 27 rfl w1.heap.size 3 i0 (.int .i64 0) 1 Try.underlying27 HI.out HZ0.out HZ1.out .i64 .i64 (M : Int) M rfl rfl rfl (by rw [HZ2.out]; omega) (by simp only [maxLen]; omega) (Nat.le_refl _) ?_; intro w3 hr3 hg3; refine Hid.out ?_)
  refine Lib.hid ?_
  have l3 : Low w1 w3 := Below.grown (Low.refl w1) hg3 (Nat.le_refl _) (fun k e => by cases e)
  have HK3 := Lib.hid (HK.out.below l3 HK.out.lt)
  have HL3 := Lib.hid (hL.out.trans l3)
  have hz3 : w.heap.size + 2 ≤ w3.heap.size := by
    have := (OwnN.lt (ys := []) ⟨hr3, AllI.nil⟩ w1.heap.size rfl).2
    omega
  rw [hz1] at hr3
  have HR3 : Hid (OwnN 3 w3 (w.heap.size + 1) (some ⟨w.heap.size + 1, 0, none⟩) 0 M []) := Lib.hid ⟨hr3, AllI.nil⟩
  clear hr3 hg3 l3 HK hL
  go_wp2_with fail
  have l4 := Low.alloc w3 (.cells #[.slice (some ⟨w.heap.size + 1, 0, none⟩) 0 M] 27)
  have hq4 : BlkV (w3.alloc (.cells #[.slice (some ⟨w.heap.size + 1, 0, none⟩) 0 M] 27)) 27 w3.heap.size [.slice (some ⟨w.heap.size + 1, 0, none⟩) 0 M] := BlkV.new w3 27 _
  have hk4 := HK3.out.below l4 HK3.out.lt
  have hr4 := HR3.out.below l4
  have hl4 := HL3.out.trans l4
  obtain ⟨q, hqq⟩ : ∃ q, q = w3.heap.size := ⟨_, rfl⟩
  obtain ⟨w4, hw4⟩ : ∃ w4, w4 = w3.alloc (.cells #[.slice (some ⟨w.heap.size + 1, 0, none⟩) 0 M] 27) := ⟨_, rfl⟩
  rw [← hw4] at hq4 hk4 hr4 hl4 ⊢
  rw [← hqq] at hq4 hz3 ⊢
  have HQ4 := Lib.hid hq4
  have HK4 := Lib.hid hk4
  have HR4 := Lib.hid hr4
  have HL4 := Lib.hid hl4
  clear hqq hw4 l4 hq4 hk4 hr4 hl4 HR3 HL3 HK3 hz1
  refine wp_region_planN (fun y => BlkV y 24 w.heap.size (keyC a b)) (.rd 0 (.rd 1 (.rd 2 (.rd 4 (.rd 5 (.rd 6 (.rd 8 (.act 3 (.act 7 (.act 9 (.done)))))))))))
    (by kernel_rfl) (by kernel_rfl) (by kernel_rfl) HK4.out ?_
  replace HK4 : Hid (BlkV w4.drew 24 w.heap.size (keyC a b)) := HK4
  replace HQ4 : Hid (BlkV w4.drew 27 q [.slice (some ⟨w.heap.size + 1, 0, none⟩) 0 M]) := HQ4
  replace HR4 := Lib.hid (HR4.out.below (Below.drew (Below.refl _ w4)))
  replace HL4 : Hid (Low w w4.drew) := Lib.hid (Below.drew HL4.out)
  generalize w4.drew = w5 at *
  iterate 7 (refine walkS_read (v := _) rfl (by rfl) (by intro y hy; first | exact exec_load_v rfl hy _ Try.underlying24 rfl key_size | (go_simp; try rfl)) ?_; simp only [Act.put, List.setIfInBounds_toArray, List.set_cons_zero, List.set_cons_succ])
  refine walkS_act rfl (by rfl) (fun K hK => ?_)
  go_simp
  refine (HOF.out w5).mono ?_
  rintro e w6 ⟨rfl, hl⟩
  go_simp
  refine hK _ _ (HK4.out.below hl HK4.out.lt) ?_
  clear hK K
  replace HQ4 := Lib.hid (HQ4.out.below hl HQ4.out.lt)
  replace HK4 := Lib.hid (HK4.out.below hl HK4.out.lt)
  replace HR4 := Lib.hid (HR4.out.below hl)
  replace HL4 := Lib.hid (HL4.out.trans hl)
  clear hl
  refine walkS_act rfl (by rfl) (fun K hK => ?_)
  go_simp
  refine (HSF.out w6).mono ?_
  rintro e w7 ⟨rfl, hl⟩
  go_simp
  refine hK _ _ (HK4.out.below hl HK4.out.lt) ?_
  clear hK K
  replace HQ4 := Lib.hid (HQ4.out.below hl HQ4.out.lt)
  replace HK4 := Lib.hid (HK4.out.below hl HK4.out.lt)
  replace HR4 := Lib.hid (HR4.out.below hl)
  replace HL4 := Lib.hid (HL4.out.trans hl)
  clear hl
  refine walkS_act rfl (by rfl) (fun K hK => ?_)
  go_simp
  refine (steps_any _ _ _ w7).mono ?_
  rintro e w8 ⟨rfl, hb1, hb2, hb3, hz8, hl⟩
  go_simp
  refine hK _ _ (HK4.out.below hl HK4.out.lt) ?_
  clear hK K
  have hq7 := HQ4.out.lt
  replace HQ4 := Lib.hid (HQ4.out.below hl HQ4.out.lt)
  replace HR4 := Lib.hid (HR4.out.below hl)
  replace HL4 := Lib.hid (HL4.out.trans hl)
  clear hl HK4
  unfold walkS orThrow
  dsimp only
  obtain ⟨B, hB⟩ : ∃ B, B = w7.heap.size := ⟨_, rfl⟩
  rw [← hB] at hb1 hb2 hb3 hz8 hq7 ⊢
  have HB1 := Lib.hid hb1
  have HB2 := Lib.hid hb2
  have HB3 := Lib.hid hb3
  clear hb1 hb2 hb3 hB
  go_wp2_with fail
  have h8 := HL4.out.size
  refine (wpIn_wide (n := 5)).1 ?_
  refine wpIn_seq_q rfl (fun args u => by go_simp) (by omega) (enc := fun x : Nat => .int .i64 (f x)) (steps1_any 4 (by omega) f s M B hM0 hM1 HST.out HLT.out HSK.out w8 HB1.out HB2.out HB3.out)
    (fun h k => h.trans k) (fun W l o o' hl _ _ _ k h0 h1 => World.putObj_heap_other (by omega)) (Below.refl _ w8) 24 8 rfl
    (fun pre W => (BlkV W 27 q [.slice (some ⟨w.heap.size + 1, 0, none⟩) pre.length M] ∧ OwnN 3 W (w.heap.size + 1) (some ⟨w.heap.size + 1, 0, none⟩) pre.length M (pre.map fun i => (f i : Int)) ∧ B + 3 ≤ W.heap.size) ∧ Low w W)
    (fun s A C row hs hg hr => ⟨⟨hs.1.1.keptC hg (fun r e => (hr r e).2), hs.1.2.1.keptC hg (fun r e => (hr r e).2), Nat.le_trans hs.1.2.2 hg.size⟩, ownFrom_below (β := Unit) (Nat.le_refl _) h8 () A C row hs.2 hg hr⟩)
    ⟨⟨HQ4.out, HR4.out, by omega⟩, HL4.out⟩ ?assign ?body ?done
  case assign =>
    intro l v W K hK
    gi_wp2
    exact hK
  case body =>
    rintro l pre x W ⟨⟨h1, h2, h3⟩, h4⟩ hlt
    have c1 : W.cell? ⟨q, 0, none⟩ = some (.slice (some ⟨w.heap.size + 1, 0, none⟩) pre.length M) := by rw [h1.cell 0]; rfl
    have f1 := h1.frozen 0
    have lA := Low.alloc W (.cells #[.int .i64 (f x : Int)] 3)
    have ho := h2.below lA
    have hkA : BlkN (W.alloc (.cells #[.int .i64 (f x : Int)] 3)) 3 W.heap.size [(f x : Int)] := BlkN.new W 3 [(f x : Int)]
    have hca : ∀ j u, [Value.int .i64 (f x : Int)][j]? = some u → (W.alloc (.cells #[.int .i64 (f x : Int)] 3)).cell? ((⟨W.heap.size, 0, none⟩ : Addr).add j) = some u := cell_one_new W _ _
    gi_wp2_with (gi_at_builtin; refine wpListIn_append_fits _ rfl (.tmp 25) (.tmp 27) 27 rfl (w.heap.size + 1) 3 i0 1 Try.underlying27 HI.out HZ1.out (w.heap.size + 1) pre.length M _ rfl ho.1 ⟨W.heap.size, 0, none⟩ 1 1 [.int .i64 (f x : Int)] rfl rfl hca (by simp [Value.oneCell']) (by omega) ?_; intro w1 hown1 hgr1; refine Hid.out ?_)
    refine Lib.hid ?_
    have hq2 : w1.heap[q]? = W.heap[q]? := (hgr1.block q (by have := h1.lt; simp; omega) (by simp; omega)).trans (Below.heap_alloc W _ q h1.lt)
    have h1' : BlkV w1 27 q [.slice (some ⟨w.heap.size + 1, 0, none⟩) pre.length M] := hq2.trans h1
    have e1 : w1.cell? ⟨q, 0, none⟩ = some (.slice (some ⟨w.heap.size + 1, 0, none⟩) pre.length M) := by rw [h1'.cell 0]; rfl
    have g1 := h1'.frozen 0
    have hfx := HLT.out x
    have HOW := Lib.hid hown1
    have HGR := Lib.hid hgr1
    have HQ1 := Lib.hid h1'
    clear hown1 hgr1 h1' hq2 hca hkA ho lA c1 f1
    gi_wp2
    have hsz := HGR.out.size
    rw [World.size_alloc] at hsz
    have hgc : (W.alloc (.cells #[.int .i64 (f x : Int)] 3)).heap[w.heap.size + 1]? = W.heap[w.heap.size + 1]? := Below.heap_alloc W _ _ (h2.lt _ rfl).2
    refine ⟨((KeepsOthers.alloc W _).trans (KeepsOthers.of_grownBy HGR.out fun j o ej hj => ?_)).trans (KeepsOthers.setCell _ _ _), fun k h0 hk1 => ?_, ⟨?_, ?_, ?_⟩, ?_⟩
    · cases ej
      rw [hgc] at hj
      exact OwnN.cellsRow h2 rfl hj
    · refine (Below.heap_setCell w1 ⟨q, 0, none⟩ _ k (show k ≠ q by omega)).trans ?_
      exact (HGR.out.block k (by simp; omega) (by simp; omega)).trans (Below.heap_alloc W _ k (by omega))
    · rw [show (pre ++ [x]).length = pre.length + 1 by simp]
      exact HQ1.out.set_ 0 _
    · rw [show (pre ++ [x]).length = pre.length + 1 by simp]
      refine ⟨?_, AllI.snocP h2.2 (by omega) (by omega)⟩
      rw [← cellsN_snoc]
      exact HOW.out.kept (grownBy_setCell' w1 q _) (.inr (by simp [Value.ownBlock]; omega))
    · simp; omega
    · exact ((h4.trans (Low.alloc W _)).grown HGR.out (by simp; omega) (fun k e => by cases e; omega)).setCell (p := ⟨q, 0, none⟩) (by show w.heap.size ≤ q; omega) _
  case done =>
    rintro D xs W hD rfl ⟨⟨h1, h2, h3⟩, h4⟩ hK
    have c1 : W.cell? ⟨q, 0, none⟩ = some (.slice (some ⟨w.heap.size + 1, 0, none⟩) (List.range M).length M) := by rw [h1.cell 0]; rfl
    have hl : (List.range M).length = M := List.length_range
    rw [hl] at c1 h2
    rw [← HOR.out] at h2
    have HD := Lib.hid hD
    clear h1 h3 hD hl
    (try simp only [Exit.inBlock, Exit.then])
    go_wp2_with fail
    refine ⟨by simp, .inl ⟨_, _, rfl, run_takeDeferred hK, ?_⟩⟩
    refine ⟨_, results_tmp rfl _ _ _, ?_⟩
    have h5 := h2.keptC (grownBy_putObj' W D (.deferred none)) fun r e => by cases e; exact ⟨_, hK, rfl⟩
    exact ⟨w.heap.size + 1, rfl, h5.full (by omega), h5.2, by omega, Below.trans h4 (belowK_b (w := w8) h8 _ D _ _ HD.out hK rfl rfl)⟩
theorem permof_yes (a b node : Int) (M : Nat) (hM0 : 2 ≤ M) (hM1 : M ≤ 1000) (hn : i64ok node) (w : World) :
    Calls Try.prog 29 #[keyV a b, .int .i64 node, .int .i64 M] w (GivesI w (ordP a b node M)) := by
  refine (permof_own a b node M hM0 hM1 hn w).mono ?_
  rintro e w' ⟨q, rfl, h1, h2, h3, h4⟩
  have hl : (ordP a b node M).length = M := ordP_len (decide_eq_true (by omega))
  exact ⟨some ⟨q, 0, none⟩, M, by rw [hl], by omega, by rw [hl]; exact h1.bs h2 h1.lt hl, fun _ => ⟨q, 0, rfl, h3⟩, h4⟩

theorem pmorder_any : PmOrders := by
  intro a b node m w hn hm
  by_cases hT : 2 ≤ m ∧ m ≤ 1000
  · obtain ⟨M, rfl⟩ : ∃ M : Nat, m = M := ⟨m.toNat, by omega⟩
    exact permof_yes a b node M (by omega) (by omega) hn w
  · have HT := Lib.hid (show tableB m = false from decide_eq_false hT)
    have HOR := Lib.hid (show ordP a b node m = [] from ordP_none (decide_eq_false hT))
    unfold keyV
    generalize ordP a b node m = L at *
    obtain rfl := HOR.out
    refine (callsIn_wide (n := 5)).1 ?_
    refine callsIn_of_wp_marks Try.func29 rfl trivial ?_ rfl
    simp only [Try.ntmps29, List.size_toArray, List.length_cons, List.length_nil, Nat.reduceAdd, Nat.reduceSub, Array.replicate_succ, Array.replicate_zero, List.push_toArray, List.append_toArray, List.nil_append, List.cons_append]
    refine wpIn_wide.2 ?_
    go_wp2_with ((with_reducible refine wpList_box_v rfl _ (.tmp 0) rfl (keyC a b) rfl ?_); intro w1 HK hL hz1; refine Hid.out ?_)
    refine Lib.hid ?_
    clear HK hz1
    go_wp2_with fail
    refine (permcan_any m w1).mono ?_
    rintro e w2 ⟨rfl, rfl⟩
    rw [HT.out]
    go_wp2_with fail
    exact ⟨_, results_tmp rfl _ _ _, none, 0, rfl, Nat.le_refl _, Ns.nil _ _ _, IFrom.nil _ _, hL⟩
end Go.Proofs.Ytogmfhofdjiihaa
