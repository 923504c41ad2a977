/- Stage 19: rows in a map of the call's own; what shift.add does with it. Conditions: at most 200 numbers, 1000 entries. -/
import Derived.Test.YtjmpcmgnbamniaaShH
import Derived.Test.YtjmpcmgnbamniaaIm
import Derived.Maps.OwnOps
set_option maxRecDepth 100000
namespace Go.Proofs.Ytjmpcmgnbamniaa
open Go.RowKit Go.Maps
set_option linter.unusedVariables false

def datR {H : Type} (r : Rws) : DataW H := .agg [.lit (.int .i64 r.n), .lit (.int .i64 r.had), .lit (.int .i64 r.has), .lit (.int .i64 r.kept)]
theorem rwsC_inj {a b : Rws} (h : rwsC a = rwsC b) : a = b := by
  obtain ⟨a1, a2, a3, a4⟩ := a
  obtain ⟨b1, b2, b3, b4⟩ := b
  simp [rwsC] at h
  obtain ⟨h1, h2, h3, h4⟩ := h
  rw [h1, h2, h3, h4]
theorem datR_inj {H : Type} {a b : Rws} (h : datR (H := H) a = datR b) : a = b := by
  obtain ⟨a1, a2, a3, a4⟩ := a
  obtain ⟨b1, b2, b3, b4⟩ := b
  simp [datR] at h
  obtain ⟨h1, h2, h3, h4⟩ := h
  rw [h1, h2, h3, h4]
open Classical in
/-- how a row in a map reads -/
noncomputable def elemR {H : Type} (v : Value) : Option (DataW H × List MemPlace) := if h : ∃ r, v = .agg (rwsC r).toArray then some (datR h.choose, []) else none
theorem aggR_inj {a b : Rws} (h : Value.agg (rwsC a).toArray = .agg (rwsC b).toArray) : a = b := by
  injection h with h
  injection h with h
  exact rwsC_inj h
theorem elemR_mk {H : Type} (r : Rws) : elemR (H := H) (.agg (rwsC r).toArray) = some (datR r, []) := by
  have h : ∃ s, Value.agg (rwsC r).toArray = .agg (rwsC s).toArray := ⟨r, rfl⟩
  unfold elemR
  rw [dif_pos h, ← aggR_inj h.choose_spec]
theorem elemR_inv {H : Type} {v : Value} {z : DataW H × List MemPlace} (h : elemR v = some z) : ∃ r, v = .agg (rwsC r).toArray ∧ z = (datR r, []) := by
  unfold elemR at h
  split at h
  · rename_i hx
    exact ⟨hx.choose, hx.choose_spec, (Option.some.inj h).symm⟩
  · cases h
/-- 'm[k]' whatever the elements: the walk goes on with the value that reads so -/
theorem wpList_lookup_own_v {H : Type} {P : Program} (w : World) {ops : Array Oper} {rest : List Oper} {o : Oper} {a : Act} {Q : Exit → Act → World → Prop}
    (hg : o.guard = none) (m x : Operand) (t : TypeId) (hop : o.op = Op.lookup t m x false) (k e : TypeId) (K : Keyed P k) (ht : P.underlying t = some (.map k e))
    (R : Value → Option (DataW H × List MemPlace)) (z : Value) (hz : (zeroValue e).run P w = .ok z w) (zd : DataW H) (zp : List MemPlace) (hzd : R z = some (zd, zp)) (b n : Nat) (D : DataW H)
    (hm : a.eval m = .map (some b)) (hown : w.ownsMap P k R b n D) (key : Value) (kl : Lit) (hx : a.eval x = key) (hkey : keyOf P k key = some kl) (v : Value) (hv : ∀ u ps, R u = some (D.atKey kl zd, ps) → u = v)
    (hK : wpList P ops Q rest (a.put o.dst v) w) : wpList P ops Q (o :: rest) a w := by
  refine wpList_plain hg fun K' hK' => ?_
  obtain ⟨u, ps, hrun, hu⟩ := hown.lookup K ht hz hzd hkey
  rw [hv u ps hu] at hrun
  unfold Oper.wp
  simp [execOp, hop, hm, hx, hrun, Result.andThen]
  exact hK' _ _ hK

/-- the map has the numbers S, and tells h x of each x -/
structure MapR (D : DataW Unit) (S : List Int) (h : Int → Rws) : Prop where
  has_ : ∀ x, Maps.has D (.int .i64 x) = decide (x ∈ S)
  at_ : ∀ x, D.atKey (.int .i64 x) (datR ⟨0, 0, 0, 0⟩) = datR (h x)
theorem MapR.empty : MapR (.map []) [] fun _ => ⟨0, 0, 0, 0⟩ := ⟨fun x => by simp [Maps.has], fun x => rfl⟩
theorem lit_ne {x y : Int} (h : x ≠ y) : Lit.int .i64 x ≠ .int .i64 y := fun e => h (by injection e)
theorem MapR.put_ {D : DataW Unit} {S : List Int} {h : Int → Rws} (hm : MapR D S h) (hD : IsMap D) (x : Int) (r : Rws) : MapR (D.put (.int .i64 x) (datR r)) (S ++ [x]) fun y => if y = x then r else h y :=
  ⟨fun y => by
    by_cases e : y = x
    · subst e
      rw [has_put_same hD (show WideAt.IsKeyLit (.int .i64 y) from trivial)]
      simp
    · rw [has_put_other (lit_ne e), hm.has_]
      simp [e], fun y => by
    by_cases e : y = x
    · subst e
      rw [atKey_put_same hD (show WideAt.IsKeyLit (.int .i64 y) from trivial), if_pos rfl]
    · rw [atKey_put_other (lit_ne e), hm.at_, if_neg e]⟩
/-- what is counted more -/
def addR (more : Rws) (h : Int → Rws) (l : List Int) : Int → Rws := fun y => ⟨0, (h y).had + more.had * (l.count y : Nat), (h y).has + more.has * (l.count y : Nat), (h y).kept + more.kept * (l.count y : Nat)⟩
theorem addR_nil (more : Rws) (h : Int → Rws) (h0 : ∀ y, (h y).n = 0) : addR more h [] = h := by
  funext y
  have := h0 y
  unfold addR
  cases hy : h y
  rw [hy] at this
  simp at this
  simp [this]
theorem addR_snoc (more : Rws) (h : Int → Rws) (l : List Int) (x : Int) : (fun y => if y = x then ⟨0, (addR more h l x).had + more.had, (addR more h l x).has + more.has, (addR more h l x).kept + more.kept⟩ else addR more h l y) = addR more h (l ++ [x]) := by
  funext y
  unfold addR
  rw [List.count_append, List.count_singleton]
  by_cases e : y = x
  · subst e
    simp [Int.mul_add, Int.add_assoc]
  · have e2 : (x == y) = false := by simpa using fun h => e h.symm
    rw [if_neg e, e2]
    simp
theorem posP_snoc (l : List Int) (i : Nat) (h : i < l.length) : posP (l.take (i + 1)) = if 0 < l.getD i 0 then posP (l.take i) ++ [l.getD i 0] else posP (l.take i) := by
  have e : l.getD i 0 = l[i] := by simp [List.getD, h]
  unfold posP
  rw [List.take_succ_eq_append_getElem h, List.filter_append, e]
  by_cases h0 : 0 < l[i]
  · simp [h0]
  · simp [h0]
theorem one_mulR (m : Int) (c k : Nat) (h0 : 0 ≤ m) (h1 : m ≤ 1) (hc : c ≤ k) : 0 ≤ m * (c : Int) ∧ m * (c : Int) ≤ k := by
  have : m = 0 ∨ m = 1 := by omega
  rcases this with rfl | rfl
  · simp
  · simp
    omega
/-- each of the counts is in reach -/
def FewR (k : Nat) (h : Int → Rws) : Prop := ∀ y, (h y).n = 0 ∧ 0 ≤ (h y).had ∧ (h y).had ≤ k ∧ 0 ≤ (h y).has ∧ (h y).has ≤ k ∧ 0 ≤ (h y).kept ∧ (h y).kept ≤ k
/-- one more, or none, of each -/
def OneR (m : Rws) : Prop := 0 ≤ m.had ∧ m.had ≤ 1 ∧ 0 ≤ m.has ∧ m.has ≤ 1 ∧ 0 ≤ m.kept ∧ m.kept ≤ 1
theorem FewR.add_ {k j : Nat} {h : Int → Rws} (hf : FewR k h) {more : Rws} (hm : OneR more) {l : List Int} (hl : l.length ≤ j) : FewR (k + j) (addR more h l) := fun y => by
  obtain ⟨f0, f1, f2, f3, f4, f5, f6⟩ := hf y
  obtain ⟨m1, m2, m3, m4, m5, m6⟩ := hm
  have hc : l.count y ≤ j := Nat.le_trans List.count_le_length hl
  have a1 := one_mulR more.had (l.count y) j m1 m2 hc
  have a2 := one_mulR more.has (l.count y) j m3 m4 hc
  have a3 := one_mulR more.kept (l.count y) j m5 m6 hc
  refine ⟨rfl, ?_, ?_, ?_, ?_, ?_, ?_⟩ <;> simp only [addR] <;> omega
theorem posP_len (l : List Int) : (posP l).length ≤ l.length := List.length_filter_le _ _
theorem Ns.grownB {w w' : World} {B n b : Nat} {A : Option Addr} {xs : List Int} (h : Ns w B A n xs) (hg : w.grownBy w' (some b)) (hB : B ≤ w.heap.size) (hne : 0 < n → ∀ ad, A = some ad → ad.block ≠ b) : Ns w' B A n xs :=
  ⟨h.len, h.all, fun hn => by
    obtain ⟨g, o, e, hb, hc⟩ := h.mem hn
    refine ⟨g, o, e, hb, fun i hi => (World.cell?_of_block (hg.block g (by omega) fun e2 => ?_)).trans (hc i hi)⟩
    injection e2 with e2
    exact hne hn _ e e2⟩
theorem srow_zero : (Try.prog.info? 29).map (·.zero) = some (some (.agg (rwsC ⟨0, 0, 0, 0⟩).toArray)) := by kernel_rfl
theorem srow_zeroV (w : World) : (zeroValue 29).run Try.prog w = .ok (.agg (rwsC ⟨0, 0, 0, 0⟩).toArray) w := by kernel_rfl

set_option maxRecDepth 100000 in
set_option maxHeartbeats 6400000 in
theorem shadd_any (A : Option Addr) (n c : Nat) (L : List Int) (b N k : Nat) (D : DataW Unit) (S : List Int) (h : Int → Rws) (more : Rws) (w : World) (hn : n ≤ 200) (hN : N ≤ 1000) (hk : k ≤ 1000) (hm : OneR more) (hh : FewR k h)
    (hb : Ns w w.heap.size A n L) (hne : 0 < n → ∀ ad, A = some ad → ad.block ≠ b) (hown : w.ownsMap Try.prog 3 elemR b N D) (hr : MapR D S h) :
    Calls Try.prog 13 #[.map (some b), .slice A n c, .agg (rwsC more).toArray] w fun e w' => e = .returned (.tuple #[]) ∧
      ∃ D', w'.ownsMap Try.prog 3 elemR b (N + n) D' ∧ MapR D' (S ++ posP L) (addR more h (posP L)) ∧ w.grownBy w' (some b) := by
  have HB := Lib.hid hb
  have HL := Lib.hid hb.len
  have HNE := Lib.hid hne
  have HO := Lib.hid hown
  have HR := Lib.hid hr
  have HFW := Lib.hid (fun i => hh.add_ hm (l := posP (L.take i)) (j := 200) (Nat.le_trans (posP_len _) (by rw [List.length_take, hb.len]; omega)))
  have HH0 := Lib.hid (show addR more h [] = h from addR_nil more h fun y => (hh y).1)
  have HM := Lib.hid hm
  have HPS := Lib.hid (posP_snoc L)
  have HAS := Lib.hid (addR_snoc more h)
  have HBW := Lib.hid hown.lt
  clear hb hne hown hr hh hm
  go_enter Try.func13, Try.ntmps13
  go_wp2_with ((with_reducible refine wpList_box_v rfl _ _ rfl (rwsC more) rfl ?_); intro w1 hk1 hl1 hz1; refine Hid.out ?_)
  refine Lib.hid ?_
  have HK1 := Lib.hid hk1
  have HG1 := Lib.hid (show w.grownBy w1 (some b) from ⟨hl1.os, hl1.tape, hl1.output, hl1.size, fun i hi _ => hl1.block i hi⟩)
  have HO1 := Lib.hid (heapP HO.out (hl1.block b HBW.out))
  have HB1 := Lib.hid (HB.out.below hl1)
  have HS1 := Lib.hid hz1
  clear hk1 hl1 hz1 HB HO
  go_wp2_with fail
  go_loopw [11] (fun v wr => ∃ (i : Nat) (D' : DataW Unit), i ≤ n ∧ v = .int .i64 i ∧ Hid (Ns wr w.heap.size A n L) ∧ Hid (wr.ownsMap Try.prog 3 elemR b (N + i) D') ∧ Hid (MapR D' (S ++ posP (L.take i)) (addR more h (posP (L.take i)))) ∧ Hid (BlkV wr 29 w.heap.size (rwsC more)) ∧ Hid (w.grownBy wr (some b)) ∧ w.heap.size + 1 ≤ wr.heap.size) (fun v _ => n - (intOf v).toNat)
  case atStart => exact ⟨0, D, by omega, rfl, HB1, HO1, Lib.hid (by simpa [posP, HH0.out] using HR.out), HK1, HG1, by have := HS1.out; omega⟩
  case round =>
    clear HB1 HO1 HK1 HG1 HS1
    obtain ⟨i, D', hi, rfl, HB, HO, HR', HK, HG, hsz⟩ := hrel
    by_cases hlt : i < n
    · obtain ⟨b1, o1, rfl, hb1, hc1⟩ := HB.out.at_ hlt
      have c1 := hc1 i hlt
      have g1 : (i : Int) < n := by omega
      have HX := Lib.hid (HB.out.nonneg i)
      have HP := Lib.hid (HPS.out i (by rw [HL.out]; exact hlt))
      clear hc1
      generalize hxx : L.getD i 0 = x at *
      have HFX := Lib.hid (HFW.out i x)
      by_cases h0 : 0 < x
      · rw [if_pos h0] at HP
        have HAT := Lib.hid (HR'.out.at_ x)
        have HR2 := Lib.hid (HR'.out.put_ HO.out.isMap x ⟨0, (addR more h (posP (L.take i)) x).had + more.had, (addR more h (posP (L.take i)) x).has + more.has, (addR more h (posP (L.take i)) x).kept + more.kept⟩)
        rw [HAS.out, List.append_assoc, ← HP.out] at HR2
        have HKX := Lib.hid (keyP x (show i64ok x from HX.out))
        have HQ := Lib.hid HM.out
        have HHH := Lib.hid (show addR more h (posP (L.take i)) x = ⟨0, (addR more h (posP (L.take i)) x).had, (addR more h (posP (L.take i)) x).has, (addR more h (posP (L.take i)) x).kept⟩ from rfl)
        obtain ⟨p1, hp1⟩ : ∃ p, p = (addR more h (posP (L.take i)) x).had := ⟨_, rfl⟩
        obtain ⟨p2, hp2⟩ : ∃ p, p = (addR more h (posP (L.take i)) x).has := ⟨_, rfl⟩
        obtain ⟨p3, hp3⟩ : ∃ p, p = (addR more h (posP (L.take i)) x).kept := ⟨_, rfl⟩
        have HFX2 := Lib.hid (show 0 ≤ p1 ∧ p1 ≤ 1200 ∧ 0 ≤ p2 ∧ p2 ≤ 1200 ∧ 0 ≤ p3 ∧ p3 ≤ 1200 from by
          obtain ⟨f0, f1, f2, f3, f4, f5, f6⟩ := HFX.out
          rw [hp1, hp2, hp3]
          omega)
        rw [← hp1, ← hp2, ← hp3] at HR2 HHH
        rw [HHH.out] at HAT
        obtain ⟨q1, hq1⟩ : ∃ q, q = more.had := ⟨_, rfl⟩
        obtain ⟨q2, hq2⟩ : ∃ q, q = more.has := ⟨_, rfl⟩
        obtain ⟨q3, hq3⟩ : ∃ q, q = more.kept := ⟨_, rfl⟩
        have HQ2 := Lib.hid (show 0 ≤ q1 ∧ q1 ≤ 1 ∧ 0 ≤ q2 ∧ q2 ≤ 1 ∧ 0 ≤ q3 ∧ q3 ≤ 1 from by
          obtain ⟨f1, f2, f3, f4, f5, f6⟩ := HM.out
          rw [hq1, hq2, hq3]
          omega)
        have e1 : wr.cell? ⟨w.heap.size, 1, none⟩ = some (.int .i64 q1) := by rw [hq1]; exact HK.out.cell 1
        have e2 : wr.cell? ⟨w.heap.size, 2, none⟩ = some (.int .i64 q2) := by rw [hq2]; exact HK.out.cell 2
        have e3 : wr.cell? ⟨w.heap.size, 3, none⟩ = some (.int .i64 q3) := by rw [hq3]; exact HK.out.cell 3
        rw [← hq1, ← hq2, ← hq3] at HR2
        clear hp1 hp2 hp3 hq1 hq2 hq3 HFX HX HP
        obtain ⟨g, hg⟩ : ∃ g, g = w.heap.size := ⟨_, rfl⟩
        have HGE := Lib.hid hg
        rw [← hg] at e1 e2 e3 ⊢
        clear hg
        go_wp2_with (first
          | (at_lookup; refine wpList_lookup_own_v _ rfl _ _ 38 rfl 3 29 keyedP Try.underlying38 elemR _ (srow_zeroV _) _ _ (elemR_mk ⟨0, 0, 0, 0⟩) b (N + i) D' rfl HO.out _ _ rfl HKX.out (.agg (rwsC ⟨0, p1, p2, p3⟩).toArray) (fun u ps hu => by obtain ⟨r, rfl, hz⟩ := elemR_inv hu; rw [HAT.out] at hz; injection hz with hz _; rw [← datR_inj hz]) ?_)
          | ((with_reducible refine wpList_alloc_v rfl _ rfl (rwsC ⟨0, 0, 0, 0⟩) srow_zero ?_); intro w2 HZ hl2 hz2; refine Hid.out ?_))
        refine Lib.hid ?_
        go_wp2_with ((refine wpList_store_v rfl 29 (.tmp 8) (.tmp 19) rfl wr.heap.size rfl (rwsC ⟨0, p1, p2, p3⟩) rfl _ (rwsC ⟨0, 0, 0, 0⟩) HZ rfl srow_size (rwsC_one _) ?_); intro w3 HB3 hb3 hz3; refine Hid.out ?_)
        refine Lib.hid ?_
        have hl3 : Low wr w3 := Below.trans hl2 (hb3.mono (Nat.le_refl _))
        have hWr := HGE.out
        have d1 : w3.cell? ⟨wr.heap.size, 1, none⟩ = some (.int .i64 p1) := HB3.cell 1
        have d2 : w3.cell? ⟨wr.heap.size, 2, none⟩ = some (.int .i64 p2) := HB3.cell 2
        have d3 : w3.cell? ⟨wr.heap.size, 3, none⟩ = some (.int .i64 p3) := HB3.cell 3
        have f1 := (hl3.cell (p := ⟨g, 1, none⟩) (by show g < wr.heap.size; omega)).trans e1
        have f2 := (hl3.cell (p := ⟨g, 2, none⟩) (by show g < wr.heap.size; omega)).trans e2
        have f3 := (hl3.cell (p := ⟨g, 3, none⟩) (by show g < wr.heap.size; omega)).trans e3
        have HO3 := Lib.hid (heapP HO.out (hl3.block b HO.out.lt))
        have HB4 := Lib.hid (HB.out.below (hl3.mono (by omega)))
        have HK3 := Lib.hid (HK.out.below hl3 (by omega))
        have HG3 := Lib.hid (HG.out.trans (show wr.grownBy w3 (some b) from ⟨hl3.os, hl3.tape, hl3.output, hl3.size, fun j hj _ => hl3.block j hj⟩))
        have hs3 : w3.heap.size = wr.heap.size + 1 := hz3.trans hz2
        have k1 : wrap64 (p1 + q1) = p1 + q1 := wrap64_inS _ (by have := HFX2.out; have := HQ2.out; omega) (by have := HFX2.out; have := HQ2.out; omega)
        have k2 : wrap64 (p2 + q2) = p2 + q2 := wrap64_inS _ (by have := HFX2.out; have := HQ2.out; omega) (by have := HFX2.out; have := HQ2.out; omega)
        have k3 : wrap64 (p3 + q3) = p3 + q3 := wrap64_inS _ (by have := HFX2.out; have := HQ2.out; omega) (by have := HFX2.out; have := HQ2.out; omega)
        clear HZ hl2 hz2 hb3 hz3 hl3 HB3 HO HB HK HG e1 e2 e3 c1 HAT HHH hWr
        generalize wr.heap.size = g8 at *
        go_wp2_with (at_mapUpdate; refine wpList_mapUpdate_own _ rfl _ _ _ 38 rfl 3 29 keyedP Try.underlying38 elemR b (N + i) _ rfl HO3.out (by unfold maxLen; omega) _ (.agg (rwsC ⟨0, p1 + q1, p2 + q2, p3 + q3⟩).toArray) _ rfl rfl HKX.out _ [] (elemR_mk _) ?_; intro w5 hown5 hgrow5; refine Hid.out ?_)
        refine Lib.hid ?_
        have hs5 := hgrow5.size
        have HB5 := Lib.hid (HB4.out.grownB hgrow5 (by omega) HNE.out)
        have HK5 : Hid (BlkV w5 29 w.heap.size (rwsC more)) := Lib.hid ((hgrow5.block w.heap.size HK3.out.lt (fun e => by injection e with e; have := HBW.out; omega)).trans HK3.out)
        have HG5 := Lib.hid (HG3.out.trans hgrow5)
        have HO5 := Lib.hid hown5
        have hsz5 : w.heap.size + 1 ≤ w5.heap.size := by omega
        clear hown5 hgrow5 d1 d2 d3 f1 f2 f3 k1 k2 k3 HO3 HB4 HK3 HG3
        rw [← HGE.out] at HB5 HK5 hsz5
        go_wp2_with fail
        go_roundw
        case rel => exact ⟨i + 1, _, by omega, by go_num, HB5, HO5, HR2, HK5, HG5, hsz5⟩
        case measure => simp [intOf]; omega
      · rw [if_neg h0] at HP
        rw [← HP.out] at HR'
        have HO2 := Lib.hid (HO.out.mono (show N + i ≤ N + (i + 1) by omega))
        go_wp2_with fail
        go_roundw
        case rel => exact ⟨i + 1, D', by omega, by go_num, HB, HO2, HR', HK, HG, hsz⟩
        case measure => simp [intOf]; omega
    · obtain rfl : i = n := by omega
      rw [List.take_of_length_le (by rw [HL.out]; exact Nat.le_refl _)] at HR'
      go_wp2_with fail
      go_end0
      exact ⟨rfl, D', HO.out, HR'.out, HG.out⟩
end Go.Proofs.Ytjmpcmgnbamniaa
