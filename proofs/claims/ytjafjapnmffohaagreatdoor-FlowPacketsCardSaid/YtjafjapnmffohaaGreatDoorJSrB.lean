/- Texts joined.
  What srh.ahead and srh.segments answer: what stands ahead of a routing header's parts. Condition: at most 2^47 bytes.
  What srh.Parse answers: the routing header that bytes begin with. Condition: at most 2^47 - 4096 bytes.
  What the document's own Parse answers: the routing header that bytes begin with. Condition: at most 2^47 - 4096 bytes.
  What the document's Same answers of two routing headers that say the same: true. Condition: at most 2^47 segments and parts.
  What the laws' own small test of routing headers answers: true. No condition.
-/
import Derived.Test.YtjafjapnmffohaaGreatDoorJSrA
import Derived.Test.YtjafjapnmffohaaGreatDoorSlc
import Derived.OwnWalk
import Derived.Test.YtjafjapnmffohaaGreatDoorJTl
import Derived.Test.YtjafjapnmffohaaGreatDoorJTp
import Derived.Test.YtjafjapnmffohaaGreatDoorJReg
import Derived.Test.YtjafjapnmffohaaGreatDoorEq
set_option maxRecDepth 100000
namespace Go.Proofs.YtjafjapnmffohaaGreatDoor
open Go.RowKit
set_option linter.unusedVariables false

def aheadF (xs : List Int) : Nat := if aheadR xs = 0 then fromR xs else 0
def aheadL (xs : List Int) : Nat := if aheadR xs = 0 then wideR xs else 0
theorem aheadFL_err {xs : List Int} {k : Int} (h : aheadR xs = k) (hk : k ≠ 0) : aheadF xs = 0 ∧ aheadL xs = 0 := by
  unfold aheadF aheadL
  rw [if_neg (by omega), if_neg (by omega)]
  exact ⟨rfl, rfl⟩
/-- nothing, and why -/
def GivesAh (w : World) (xs : List Int) (e : Ending) (w' : World) : Prop :=
  e = .returned (.tuple #[.int .i64 (aheadF xs), .int .i64 (aheadL xs), .int .i64 (aheadR xs)]) ∧ w' = w
theorem GivesAh.no {w : World} {xs : List Int} {k : Int} (h : aheadR xs = k) (hk : k ≠ 0) : GivesAh w xs (.returned (.tuple #[.int .i64 0, .int .i64 0, .int .i64 k])) w := by
  obtain ⟨h1, h2⟩ := aheadFL_err h hk
  refine ⟨?_, rfl⟩
  rw [h1, h2, h]
  rfl
theorem GivesAh.yes {w : World} {xs : List Int} {f l : Int} (h : aheadR xs = 0) (hf : (fromR xs : Int) = f) (hl : (wideR xs : Int) = l) : GivesAh w xs (.returned (.tuple #[.int .i64 f, .int .i64 l, .int .i64 0])) w := by
  refine ⟨?_, rfl⟩
  unfold aheadF aheadL
  rw [if_pos h, if_pos h, hf, hl, h]

set_option maxRecDepth 100000 in
set_option maxHeartbeats 1600000 in
theorem ahead10_any (A : Option Addr) (n c : Nat) (xs : List Int) (w : World) (hn : n ≤ 140737488355328) (hb : Bs w w.heap.size A n xs) :
    Calls Tryz.prog 50 #[.slice A n c] w (GivesAh w xs) := by
  have hlen := hb.len
  by_cases h8 : n < 8
  · have HA := Lib.hid (show aheadR xs = 3 by unfold aheadR; rw [if_pos (by omega)])
    clear hb hlen
    go_enter Tryz.func50, Tryz.ntmps50
    go_wp2_with fail
    go_ret3
    exact GivesAh.no HA.out (by omega)
  · obtain ⟨b, o, rfl, -, hc⟩ := hb.mem (by omega)
    have c1 := hc 1 (by omega)
    have c2 := hc 2 (by omega)
    have c3 := hc 3 (by omega)
    have c4 := hc 4 (by omega)
    obtain ⟨r1, r1'⟩ := hb.nonneg 1
    obtain ⟨r2, r2'⟩ := hb.nonneg 2
    obtain ⟨r3, r3'⟩ := hb.nonneg 3
    obtain ⟨r4, r4'⟩ := hb.nonneg 4
    have hw : (wideR xs : Int) = 8 * (xs.getD 1 0 + 1) := by unfold wideR; omega
    have hm : (manyR xs : Int) = xs.getD 4 0 + 1 := by unfold manyR; omega
    have hf : (fromR xs : Int) = 8 + 16 * (xs.getD 4 0 + 1) := by unfold fromR; omega
    have ha : aheadR xs = if n < wideR xs then 3 else if xs.getD 2 0 ≠ 4 then 7 else if 10 < manyR xs then 8 else if wideR xs < fromR xs ∨ (manyR xs : Int) ≤ xs.getD 3 0 then 5 else 0 := by unfold aheadR; rw [hlen, if_neg h8]
    clear hc hb
    have HW := Lib.hid hw
    have HF := Lib.hid hf
    generalize xs.getD 1 0 = x1 at *
    generalize xs.getD 2 0 = x2 at *
    generalize xs.getD 3 0 = x3 at *
    generalize xs.getD 4 0 = x4 at *
    by_cases hs : n < wideR xs
    · have HA := Lib.hid (ha.trans (if_pos hs))
      have hs' : (n : Int) < 8 * (x1 + 1) := by omega
      clear hlen ha hw hm hf hs
      go_enter Tryz.func50, Tryz.ntmps50
      go_wp2_with fail
      go_ret3
      exact GivesAh.no HA.out (by omega)
    · replace ha := ha.trans (if_neg hs)
      have hs' : ¬ (n : Int) < 8 * (x1 + 1) := by omega
      by_cases h4 : x2 = 4
      · replace ha := ha.trans (if_neg (by simpa using h4))
        subst h4
        by_cases h10 : 10 < manyR xs
        · have HA := Lib.hid (ha.trans (if_pos h10))
          have h10' : 10 < x4 + 1 := by omega
          clear hlen ha hw hm hf hs h10
          go_enter Tryz.func50, Tryz.ntmps50
          go_wp2_with fail
          go_ret3
          exact GivesAh.no HA.out (by omega)
        · replace ha := ha.trans (if_neg h10)
          have h10' : ¬ 10 < x4 + 1 := by omega
          by_cases hl : wideR xs < fromR xs
          · have HA := Lib.hid (ha.trans (if_pos (.inl hl)))
            have hl' : decide (8 * (x1 + 1) < 8 + 16 * (x4 + 1)) = true := by simp; omega
            clear hlen ha hw hm hf hs h10 hl
            go_enter Tryz.func50, Tryz.ntmps50
            go_wp2_with fail
            go_ret3
            exact GivesAh.no HA.out (by omega)
          · have hl' : decide (8 * (x1 + 1) < 8 + 16 * (x4 + 1)) = false := by simp; omega
            by_cases hg : (manyR xs : Int) ≤ x3
            · have HA := Lib.hid (ha.trans (if_pos (.inr hg)))
              have hg' : decide (x4 + 1 ≤ x3) = true := by simp; omega
              clear hlen ha hw hm hf hs h10 hl hg
              go_enter Tryz.func50, Tryz.ntmps50
              go_wp2_with fail
              go_ret3
              exact GivesAh.no HA.out (by omega)
            · have HA := Lib.hid (ha.trans (if_neg (by omega)))
              have hg' : decide (x4 + 1 ≤ x3) = false := by simp; omega
              clear hlen ha hw hm hf hs h10 hl hg
              go_enter Tryz.func50, Tryz.ntmps50
              go_wp2_with fail
              go_ret3
              exact GivesAh.yes HA.out HF.out HW.out
      · have HA := Lib.hid (ha.trans (if_pos h4))
        have h4' : (x2 != 4) = true := by simpa using h4
        clear hlen ha hw hm hf hs h4
        go_enter Tryz.func50, Tryz.ntmps50
        go_wp2_with fail
        go_ret3
        exact GivesAh.no HA.out (by omega)

/-- addresses of the call's own are handed back -/
def GivesAs (w : World) (l : List (List Int)) (e : Ending) (w' : World) : Prop :=
  ∃ A c, e = .returned (.slice A l.length c) ∧ OwnA 24 w' w.heap.size A l.length c l ∧ Below w.heap.size w w'
theorem GivesAs.of {w w' : World} {l l' : List (List Int)} {A : Option Addr} {n c : Nat} (h : l = l') (ho : OwnA 24 w' w.heap.size A n c l') (hB : Below w.heap.size w w') : GivesAs w l (.returned (.slice A n c)) w' := by
  subst h
  have hl := ho.2.2
  subst hl
  exact ⟨A, c, rfl, ho, hB⟩
/-- 16 bytes of a slice, and no room behind them -/
theorem slc_sixteen (b o n c : Nat) (h16 : 16 ≤ n) (hc : n ≤ c) (hc2 : c ≤ 9223372036854775807) :
    ∀ u, (Instr.sliceAt 22 (.slice (some ⟨b, o, none⟩) n c) none (some (.int .i64 16)) (some (.int .i64 16))).run Tryz.prog u = .ok (.slice (some ⟨b, o, none⟩) 16 16) u := by
  intro u
  have i1 : (16 : Int) ≤ c := by omega
  go_simp
theorem Bs.range {w : World} {B n b o : Nat} {xs : List Int} (h : Bs w B (some ⟨b, o, none⟩) n xs) (h16 : 16 ≤ n) : b < B ∧ w.rangeAt b o (cellsB (xs.take 16)) := by
  obtain ⟨b', o', e, hb, hc⟩ := h.mem (by omega)
  injection e with e
  injection e with e1 e2 _
  subst e1 e2
  refine ⟨hb, fun j v hv => ?_⟩
  have hl := h.len
  have hj : j < 16 := by
    have := (List.getElem?_eq_some_iff.1 hv).1
    rw [cellsB_length, List.length_take] at this
    omega
  rw [cellsB_get (by rw [List.length_take]; omega)] at hv
  rw [← hv, hc j (by omega)]
  simp [List.getD, hj]

theorem list16R (s : List Int) (h : s.length = 16) : ∃ s0 s1 s2 s3 s4 s5 s6 s7 s8 s9 s10 s11 s12 s13 s14 s15, s = [s0, s1, s2, s3, s4, s5, s6, s7, s8, s9, s10, s11, s12, s13, s14, s15] := by
  match s, h with
  | [s0, s1, s2, s3, s4, s5, s6, s7, s8, s9, s10, s11, s12, s13, s14, s15], _ => exact ⟨s0, s1, s2, s3, s4, s5, s6, s7, s8, s9, s10, s11, s12, s13, s14, s15, rfl⟩
theorem run_one_lit (s0 s1 s2 s3 s4 s5 s6 s7 s8 s9 s10 s11 s12 s13 s14 s15 : Int) (w : World) : (Instr.buildSlice 27 1 #[(0, .agg (cellsB [s0, s1, s2, s3, s4, s5, s6, s7, s8, s9, s10, s11, s12, s13, s14, s15]).toArray)]).run Tryz.prog w = .ok (.slice (some ⟨w.heap.size, 0, none⟩) 1 1) (w.alloc (.cells (cellsB [s0, s1, s2, s3, s4, s5, s6, s7, s8, s9, s10, s11, s12, s13, s14, s15]).toArray 24)) := by kernel_rfl
theorem run_one_addr (s : List Int) (hs : s.length = 16) (w : World) : (Instr.buildSlice 27 1 #[(0, .agg (cellsB s).toArray)]).run Tryz.prog w = .ok (.slice (some ⟨w.heap.size, 0, none⟩) 1 1) (w.alloc (.cells (cellsB s).toArray 24)) := by
  obtain ⟨s0, s1, s2, s3, s4, s5, s6, s7, s8, s9, s10, s11, s12, s13, s14, s15, rfl⟩ := list16R s hs
  exact run_one_lit _ _ _ _ _ _ _ _ _ _ _ _ _ _ _ _ w
theorem wpList_one_addr {ops : Array Oper} {rest : List Oper} {o : Oper} {a : Act} {w : World} {Q : Exit → Act → World → Prop} (hgd : o.guard = none) (x : Operand) (ho : o.op = .buildSlice 27 1 #[(0, x)]) (s : List Int) (hx : a.eval x = .agg (cellsB s).toArray) (hs : s.length = 16)
    (hk : ∀ w', Blk w' 24 w.heap.size s → Low w w' → w'.heap.size = w.heap.size + 1 → wpList Tryz.prog ops Q rest (a.put o.dst (.slice (some ⟨w.heap.size, 0, none⟩) 1 1)) w') : wpList Tryz.prog ops Q (o :: rest) a w :=
  wpList_plain hgd fun K hK => by
    unfold Oper.wp execOp
    simp only [ho, List.map_toArray, List.map_cons, List.map_nil, hx, Sem.run_bind, run_one_addr s hs, Result.andThen_ok, Sem.run_pure]
    exact hK _ _ (hk _ (Blk.new w _ s) (Low.alloc w _) (by simp))
theorem run_sixteenR (b o : Nat) (u : World) : (Instr.arrayAt 24 (.slice (some ⟨b, o, none⟩) 16 16)).run Tryz.prog u = .ok (.pointer (some ⟨b, o, none⟩)) u := by kernel_rfl
def roomR : Value → Nat
  | .slice _ m _ => m
  | _ => 0

set_option maxRecDepth 100000 in
set_option maxHeartbeats 1600000 in
theorem segments_any (A : Option Addr) (n c k : Nat) (xs : List Int) (w : World) (hk : k ≤ 10) (hn : n = k * 16) (hc : n ≤ c) (hc2 : c ≤ 9223372036854775807) (hb : Bs w w.heap.size A n xs) :
    Calls Tryz.prog 52 #[.slice A n c] w (GivesAs w (chunksR k xs)) := by
  obtain ⟨i0, hi, hz0, hz1, hz2⟩ := info_parts info_addrR
  have hlen := hb.len
  have hdiv : (n : Int) / 16 = (k : Nat) := by omega
  have hB0 := Lib.hid hb
  have HN := Lib.hid hn
  have hn160 : n ≤ 160 := by omega
  clear hb hlen hn
  go_enter Tryz.func52, Tryz.ntmps52
  go_wp2_with (refine wpList_make_own w rfl (.const (.int .i64 0)) (.tmp 7) 27 rfl w.heap.size 24 i0 (addrV zero16) 16 Tryz.underlying27 hi hz0 hz1 .i64 .i64 (k : Int) k rfl rfl rfl (by rw [hz2]; omega) (by simp only [maxLen]; omega) (Nat.le_refl _) ?_; intro w1 hr1 hg1; refine Hid.out ?_)
  refine Lib.hid ?_
  have HR1 : Hid (OwnA 24 w1 w.heap.size (some ⟨w.heap.size, 0, none⟩) 0 k []) := Lib.hid ⟨hr1, AllA.nil, rfl⟩
  have HB1 := Lib.hid ((Below.refl w.heap.size w).grown hg1 (Nat.le_refl _) (fun k e => by cases e))
  have HZ1 := Lib.hid hg1.size
  clear hr1 hg1
  go_wp2_with fail
  go_loopw [0, 3] (fun b l wr => ∃ j bA m bc A' c', j ≤ k ∧ b = .slice bA m bc ∧ l = .slice A' j c' ∧ Hid (m = (k - j) * 16) ∧ m ≤ 160 ∧ m ≤ bc ∧ bc ≤ 9223372036854775807 ∧ Hid (Bs w w.heap.size bA m (xs.drop (j * 16))) ∧ OwnA 24 wr w.heap.size A' j c' (chunksR j xs) ∧ Below w.heap.size w wr ∧ w.heap.size ≤ wr.heap.size) (fun b _ _ => roomR b)
  case atStart => exact ⟨0, A, n, c, _, k, Nat.zero_le _, rfl, rfl, Lib.hid (by rw [HN.out]; omega), hn160, hc, hc2, Lib.hid (by simpa using hB0.out), HR1.out, HB1.out, HZ1.out⟩
  case round =>
    clear HR1 HB1 HZ1
    obtain ⟨j, bA, m, bc, A', c', hj, rfl, rfl, HM, hm, hbc, hbc2, HBS, hown, hbr, hzr⟩ := hrel
    by_cases hjk : j < k
    · have hm16 : 16 ≤ m := by have := HM.out; omega
      obtain ⟨b, o, rfl, -, -⟩ := HBS.out.mem (by omega)
      obtain ⟨hbl, hr⟩ := HBS.out.range hm16
      have hx16 : ((xs.drop (j * 16)).take 16).length = 16 := by rw [List.length_take, HBS.out.len]; omega
      have hxa := HBS.out.all.take 16
      have HCS := Lib.hid (chunksR_succ j xs)
      have HSL := Lib.hid (slc_sixteen b o m bc hm16 hbc hbc2)
      obtain ⟨A2, hsl2, hA2⟩ := slc_from b o m bc 16 16 hbc rfl hm16
      have HSL2 := Lib.hid hsl2
      have HB2 := Lib.hid (HBS.out.cutFrom hm16 hA2)
      generalize (xs.drop (j * 16)).take 16 = x at *
      have HR := Lib.hid (rangeAt_below hr hbr hbl)
      have HO := Lib.hid hown
      have HBR := Lib.hid hbr
      have HXA := Lib.hid hxa
      clear hr hxa hown hbr hsl2 hA2
      go_wp2_with (refine slc_wp rfl _ (.tmp 12) none (some (.const (.int .i64 16))) (some (.const (.int .i64 16))) rfl _ (HSL.out wr) ?_; refine Hid.out ?_)
      refine Lib.hid ?_
      have harr := run_sixteenR b o wr
      go_wp2_with (first | (with_reducible refine wpList_load_at rfl (.tmp 16) rfl b o rfl x hx16 HR.out ?_) | (with_reducible refine wpList_one_addr rfl (.tmp 17) rfl x rfl hx16 ?_; intro w2 HK hl2 hz2; refine Hid.out ?_))
      refine Lib.hid ?_
      have hown0 := HO.out.below hl2
      have hlt2 := hown0.lt
      have hsrc := As.of_blk (B := w2.heap.size) HK hx16 HXA.out (by omega)
      have HB3 := Lib.hid (HBR.out.trans (hl2.mono hzr))
      have hz3 : w.heap.size ≤ w2.heap.size := by omega
      clear HK hl2 hz2 HO HBR harr
      go_wp2_with (at_builtin; refine wpList_append_as rfl _ _ 27 rfl w.heap.size 24 i0 Tryz.underlying27 hi hz0 hz1 hz2 A' j c' (chunksR j xs) rfl hown0 _ 1 1 w2.heap.size [x] rfl hsrc (by omega) hz3 ?_; intro A3 c3 w3 hown3 hgr hob; refine Hid.out ?_)
      refine Lib.hid ?_
      have hb3 := HB3.out.grown hgr hz3 fun k e => (hlt2 k e).1
      have hz4 := Nat.le_trans hz3 hgr.size
      rw [← HCS.out] at hown3
      have HOW := Lib.hid hown3
      have hm2 : m - 16 ≤ 160 := by omega
      have hbc3 : m - 16 ≤ bc - 16 := by omega
      have hbc4 : bc - 16 ≤ 9223372036854775807 := by omega
      have HM2 := Lib.hid (show m - 16 = (k - (j + 1)) * 16 by have := HM.out; omega)
      have HBS2 := Lib.hid (show Bs w w.heap.size A2 (m - 16) (xs.drop ((j + 1) * 16)) by
        have := HB2.out
        rw [List.drop_drop] at this
        rw [show (j + 1) * 16 = j * 16 + 16 by omega]
        exact this)
      clear hgr hob hown3 hown0 hsrc
      go_wp2_with (refine slc_wp rfl _ (.tmp 20) (some (.const (.int .i64 16))) none none rfl _ (HSL2.out w3) ?_; refine Hid.out ?_)
      refine Lib.hid ?_
      go_wp2_with fail
      exact ⟨⟨j + 1, A2, m - 16, bc - 16, A3, c3, by omega, rfl, rfl, HM2.out, hm2, hbc3, hbc4, HBS2.out, HOW.out, hb3, hz4⟩, by simp [roomR]; omega⟩
    · obtain rfl : j = k := by omega
      obtain rfl : m = 0 := by have := HM.out; omega
      have HO := Lib.hid hown
      have HBR := Lib.hid hbr
      clear hown hbr
      go_wp2_with fail
      go_ret
      exact GivesAs.of rfl HO.out HBR.out
end Go.Proofs.YtjafjapnmffohaaGreatDoor

namespace Go.Proofs.YtjafjapnmffohaaGreatDoor
open Go.RowKit
set_option linter.unusedVariables false

theorem OFrom.lessR {lo lo' n : Nat} {A : Option Addr} {os : List Od} (h : OFrom lo A n os) (hl : lo' ≤ lo) : OFrom lo' A n os :=
  ⟨fun hn => by
    obtain ⟨b, p, e, hb⟩ := h.1 hn
    exact ⟨b, p, e, by omega⟩, fun o ho => (h.2 o ho).less hl⟩
/-- a header, how long it is, and why not, are handed back -/
def GivesSr (w : World) (xs : List Int) (e : Ending) (w' : World) : Prop :=
  ∃ s : Sr, e = .returned (.tuple #[srV s, .int .i64 (lenR xs), .int .i64 (errR xs)]) ∧ s.v = parseR xs ∧ s.ok w' w'.heap.size ∧ Below w.heap.size w w' ∧ s.from_ w.heap.size
theorem GivesSr.no {w w' : World} {xs : List Int} {k : Int} (h : errR xs = k) (hk : k ≠ 0) (hB : Below w.heap.size w w') : GivesSr w xs (.returned (.tuple #[srV zeroSr, .int .i64 0, .int .i64 k])) w' :=
  ⟨zeroSr, by unfold lenR; rw [if_neg (by omega), h]; rfl, by unfold parseR; rw [if_neg (by omega)]; rfl, zeroSr_ok _ _, hB, AFrom.nil _ _, OFrom.nil _ _⟩
theorem GivesSr.yes {w w' : World} {xs : List Int} {s : Sr} {l : Int} (h : errR xs = 0) (hl : (wideR xs : Int) = l) (hv : s.v = saysR xs) (ho : s.ok w' w'.heap.size) (hB : Below w.heap.size w w') (hf : s.from_ (w.heap.size + 1)) : GivesSr w xs (.returned (.tuple #[srV s, .int .i64 l, .int .i64 0])) w' :=
  ⟨s, by unfold lenR; rw [if_pos h, hl, h], by unfold parseR; rw [if_pos h]; exact hv, ho, hB, hf.sg.less (by omega), hf.tl.lessR (by omega)⟩
theorem ret_sr {fn : Func} {p q r : Tmp} {R : Ending → World → Prop} {tmps : Array Value} {df : List Deferred} {w : World} {g : Nat} {s : Sr} {l er : Int} (hfn : fn.results = #[.cell p 30, .tmp q, .tmp r]) (hp : tmps.getD p undef = .pointer (some ⟨g, 0, none⟩)) (hq : tmps.getD q undef = .int .i64 l) (hr : tmps.getD r undef = .int .i64 er)
    (hb : BlkR w g s) (hR : R (.returned (.tuple #[srV s, .int .i64 l, .int .i64 er])) w) (hd : df = []) : bodyPost Tryz.prog fn R .ret ⟨tmps, df⟩ w :=
  bodyPost_ret (results_cell_tmp2 hfn tmps w g _ _ _ _ _ _ hp hq hr hb Tryz.underlying30 rfl (by rw [sr_size]; rfl)) hd hR
theorem partsR_len (xs : List Int) : (partsR xs).1.length ≤ (xs.take (wideR xs)).length := by
  unfold partsR parseTL
  exact Nat.le_trans (parseT_len _ _) (by rw [List.length_drop]; omega)

theorem num2_rangeR {xs : List Int} (h : AllB xs) (p : Nat) : 0 ≤ num2 xs p ∧ num2 xs p < 65536 := by
  have h1 := h.getD p
  have h2 := h.getD (p + 1)
  unfold num2
  omega
theorem tags_back (k fr : Nat) (xs : List Int) (h : fr = 8 + 16 * k) : chunksR k ((xs.take fr).drop 8) = chunksR k (xs.drop 8) := by
  rw [List.drop_take, show fr - 8 = k * 16 by omega, chunksR_take]

set_option maxRecDepth 100000 in
set_option maxHeartbeats 3200000 in
theorem srparse_any (A : Option Addr) (n c : Nat) (xs : List Int) (w : World) (hn : n ≤ 140737488355328) (hc : n ≤ c) (hc2 : c ≤ 9223372036854775807) (hb : Bs w w.heap.size A n xs) :
    Calls Tryz.prog 29 #[.slice A n c] w (GivesSr w xs) := by
  go_enter Tryz.func29, Tryz.ntmps29
  go_wp2_with ((with_reducible refine wpList_alloc_sr rfl rfl ?_); intro w1 HZ hL hz1; refine Hid.out ?_)
  refine Lib.hid ?_
  replace HZ := Lib.hid HZ
  have hb1 := hb.below' hL hL.size
  have HB0 := Lib.hid hb
  clear hz1 hb
  go_wp2_with fail
  refine (ahead10_any A n c xs w1 hn hb1).mono ?_
  rintro e w2 ⟨rfl, rfl⟩
  by_cases ha : aheadR xs = 0
  · obtain ⟨a1, a2, a3, a4, a5, a6⟩ := aheadR_zero ha
    have hlen := hb1.len
    have hwl := wideR_le hb1.all
    have HFR := Lib.hid (show fromR xs = 8 + 16 * manyR xs from rfl)
    have HER := Lib.hid (show errR xs = (partsR xs).2 by unfold errR; rw [if_pos ha])
    rw [show aheadF xs = fromR xs by unfold aheadF; rw [if_pos ha], show aheadL xs = wideR xs by unfold aheadL; rw [if_pos ha], ha]
    have HPL := Lib.hid (partsR_len xs)
    have HPD := Lib.hid (show partsR xs = parseTL ((xs.take (wideR xs)).drop (fromR xs)) from rfl)
    have HSY := Lib.hid (show saysR xs = ⟨xs.getD 0 0, xs.getD 3 0, xs.getD 5 0, num2 xs 6, chunksR (manyR xs) (xs.drop 8), (partsR xs).1⟩ from rfl)
    obtain ⟨wd, hwd⟩ : ∃ wd, wd = wideR xs := ⟨_, rfl⟩
    obtain ⟨fr, hfr⟩ : ∃ fr, fr = fromR xs := ⟨_, rfl⟩
    obtain ⟨k, hk⟩ : ∃ k, k = manyR xs := ⟨_, rfl⟩
    rw [← hwd] at a2 a5 hwl HPL HPD ⊢
    rw [← hfr] at a5 HFR HPD ⊢
    rw [← hk] at a4 a6 HFR HSY
    have HWD := Lib.hid hwd
    clear ha hwd hfr hk a6
    obtain ⟨b, o, rfl, hbl, hcc⟩ := HB0.out.mem (by omega)
    obtain ⟨A2, hs2, hA2⟩ := slc_both b o n c fr wd fr wd hc rfl rfl a5 (by omega)
    have hb2 := hb1.cut a5 (by omega : wd ≤ n) hA2
    have HB2 := Lib.hid hb2
    have HS2 := Lib.hid hs2
    have HCC := Lib.hid hcc
    have hlt0 := HZ.out.lt
    clear hb2 hs2 hA2 hcc
    go_wp2_with (refine slc_wp rfl _ (.tmp 22) (some (.tmp 23)) (some (.tmp 24)) none rfl _ (HS2.out w2) ?_; refine Hid.out ?_)
    refine Lib.hid ?_
    go_wp2_with fail
    refine (tlparse_any A2 (wd - fr) (c - fr) ((xs.take wd).drop fr) w2 (by omega) (by omega) (by omega) HB2.out).mono ?_
    rintro e w3 ⟨A3, r3, os, rfl, hv3, ho3, hB3, hf3⟩
    rw [← HPD.out] at hv3 ho3 hf3 ⊢
    replace HZ := Lib.hid (HZ.out.below hB3 HZ.out.lt)
    have HF3 := Lib.hid hf3
    have HO3 := Lib.hid ho3
    have HV3 := Lib.hid hv3
    have hlt := HZ.out.lt
    replace hL := hL.trans hB3
    obtain ⟨er, her⟩ : ∃ er, er = (partsR xs).2 := ⟨_, rfl⟩
    rw [← her] at HER ⊢
    clear ho3 hf3 hv3 HB2 HS2 her
    by_cases he : er = 0
    · subst he
      obtain ⟨tn, htn⟩ : ∃ tn, tn = (partsR xs).1.length := ⟨_, rfl⟩
      rw [← htn] at HO3 HF3 HPL ⊢
      have htn2 : tn ≤ 2048 := by
        have := HPL.out
        rw [List.length_take] at this
        omega
      clear htn
      go_wp2_with fail
      refine (u16_yes (some ⟨b, o, none⟩) n c 6 6 xs w3 (by omega) (HB0.out.below' hL hL.size) rfl (by omega)).mono ?_
      rintro e w4 ⟨rfl, kk, rfl⟩
      replace HZ : Hid (BlkR (w3.drewN kk) w.heap.size zeroSr) := HZ
      replace HO3 : Hid (Os (w3.drewN kk) (w3.drewN kk).heap.size A3 tn os) := Lib.hid (HO3.out.keep fun _ _ => rfl)
      replace hL := below_drewN hL kk
      generalize w3.drewN kk = w5 at *
      have htg := num2_rangeR HB0.out.all 6
      generalize num2 xs 6 = tg at *
      go_wp2_with fail
      refine wp_region_planS (fun y => Below w.heap.size w y) (.rd 0 (.rd 1 (.rd 2 (.rd 3 (.rd 4 (.rd 5 (.rd 6 (.rd 7 (.rd 8 (.rd 9 (.rd 10 (.rd 11 (.rd 12 (.rd 13 (.rd 14 (.rd 15 (.rd 17 (.rd 19 (.act 16 (.rd 18 (.act 20 (.rd 21 (.rd 22 (.done))))))))))))))))))))))))
        (by kernel_rfl) (by kernel_rfl) (fun _ _ d _ _ h => by cases d <;> exact h) (by kernel_rfl) (Below.drew hL) ?_
      replace HZ : Hid (BlkR w5.drew w.heap.size zeroSr) := HZ
      replace HO3 : Hid (Os w5.drew w5.drew.heap.size A3 tn os) := Lib.hid (HO3.out.keep fun _ _ => rfl)
      replace hL := Below.drew hL
      generalize w5.drew = w6 at *
      have c0 : w.cell? ⟨b, o, none⟩ = some (.int .u8 (xs.getD 0 0)) := HCC.out 0 (by omega)
      have c3 := HCC.out 3 (by omega)
      have c5 := HCC.out 5 (by omega)
      obtain ⟨y0, y0'⟩ := HB0.out.nonneg 0
      obtain ⟨y3, y3'⟩ := HB0.out.nonneg 3
      obtain ⟨y5, y5'⟩ := HB0.out.nonneg 5
      generalize xs.getD 0 0 = x0 at *
      generalize xs.getD 3 0 = x3 at *
      generalize xs.getD 5 0 = x5 at *
      have hw0 : IntKind.i64.wrap x0 = x0 := wraps_i64 _ y0 (by omega)
      have hw3 : IntKind.i64.wrap x3 = x3 := wraps_i64 _ y3 (by omega)
      have hw5 : IntKind.i64.wrap x5 = x5 := wraps_i64 _ y5 (by omega)
      have n0 : 0 < n := by omega
      have n3 : (3 : Int) < n := by omega
      have n5 : (5 : Int) < n := by omega
      have hfr := HFR.out
      obtain ⟨A4, hs4, hA4⟩ := slc_both b o n c 8 fr 8 fr hc rfl rfl (by omega) (by omega)
      have HB4 := Lib.hid (HB0.out.cut (by omega : 8 ≤ fr) (by omega : fr ≤ n) hA4)
      have HS4 := Lib.hid hs4
      clear hs4 hA4 hfr
      iterate 18 (refine walkS_read (v := _) rfl (by rfl) (by intro y hy; have e0 := (hy.cell (p := ⟨b, o, none⟩) hbl).trans c0; have e3 := (hy.cell (p := ⟨b, o + 3, none⟩) hbl).trans c3; have e5 := (hy.cell (p := ⟨b, o + 5, none⟩) hbl).trans c5; first | exact slc_exec (HS4.out y) | (go_simp; try rfl)) ?_; simp only [Act.put, List.setIfInBounds_toArray, List.set_cons_zero, List.set_cons_succ])
      clear c0 c3 c5 n0 n3 n5 hw0 hw3 hw5
      have HTB := Lib.hid (tags_back k fr xs HFR.out)
      refine walkS_act rfl (by rfl) (fun K hK => ?_)
      go_simp
      refine (segments_any A4 (fr - 8) (c - 8) k ((xs.take fr).drop 8) w6 a4.2 (by have := HFR.out; omega) (by omega) (by omega) (HB4.out.below' hL hL.size)).mono ?_
      rintro e w7 ⟨A5, q5, rfl, hown5, hB7⟩
      go_simp
      rw [HTB.out] at hown5 ⊢
      have hcl := chunksR_len k (xs.drop 8)
      rw [hcl] at hown5 ⊢
      have hL7 : Below w.heap.size w w7 := hL.trans (hB7.mono hL.size)
      refine hK _ _ hL7 ?_
      clear hK K
      have hz6 : w.heap.size < w6.heap.size := HZ.out.lt
      have HF5 := Lib.hid (hown5.from_)
      have HA5 := Lib.hid (hown5.lies (Nat.le_refl _))
      replace HZ := Lib.hid (HZ.out.below hB7 HZ.out.lt)
      replace HO3 := Lib.hid (HO3.out.below' hB7 hB7.size)
      obtain ⟨cs, hcs⟩ : ∃ cs, cs = chunksR k (xs.drop 8) := ⟨_, rfl⟩
      rw [← hcs] at HA5 HSY
      clear hown5 hcl hL hB7 hcs HTB HB4 HS4
      refine walkS_read (v := _) rfl (by rfl) (by intro y hy; go_simp; try rfl) ?_
      simp only [Act.put, List.setIfInBounds_toArray, List.set_cons_zero, List.set_cons_succ]
      obtain ⟨s, hs⟩ : ∃ s : Sr, s = ⟨x0, x3, x5, tg, A5, k, q5, cs, A3, tn, r3, os⟩ := ⟨_, rfl⟩
      have HSV := Lib.hid (show Value.agg (srC s).toArray = .agg #[.int .i64 x0, .int .i64 x3, .int .i64 x5, .int .i64 tg, .slice A5 k q5, .slice A3 tn r3] by rw [hs]; rfl)
      have HVV := Lib.hid (show s.v = saysR xs by rw [hs, HSY.out, ← HV3.out]; rfl)
      have HOK := Lib.hid (show s.ok w7 w7.heap.size by
        rw [hs]
        exact ⟨by unfold i64ok; show _ ∧ _; dsimp only; omega, by unfold i64ok; dsimp only; omega, by unfold i64ok; dsimp only; omega, by unfold i64ok; dsimp only; omega, by dsimp only; omega, HA5.out, by dsimp only; omega, HO3.out⟩)
      have HFS := Lib.hid (show s.from_ (w.heap.size + 1) by
        rw [hs]
        exact ⟨HF5.out.less (by omega), HF3.out.lessR (by omega)⟩)
      clear hs HA5 HO3 HF5 HF3 HV3
      refine walkS_act rfl (by rfl) (fun K hK => ?_)
      refine wp_store_row 30 (.tmp 2) (.tmp 56) rfl w.heap.size (srC s).toArray rfl HSV.out.symm 30 _ HZ.out (by rw [sr_size]; rfl) rfl (srC_one s) ?_
      refine hK _ _ (hL7.trans (low_setRow _ _ _ (Nat.le_refl _))) ?_
      clear hK K
      have HG : Hid (BlkR (w7.setRow w.heap.size (srC s).toArray) w.heap.size s) := Lib.hid (BlkV.setRow HZ.out _)
      have hL8 := hL7.trans (low_setRow w7 w.heap.size (srC s).toArray (Nat.le_refl _))
      have HOK8 := Lib.hid ((HOK.out.upper (w' := w7.setRow w.heap.size (srC s).toArray) HFS.out (fun p hp _ => World.cell?_of_block (by
        have : p.block ≠ w.heap.size := by omega
        simp [World.setRow, Array.getElem?_modify, Ne.symm this]))).more (by simp : w7.heap.size ≤ (w7.setRow w.heap.size (srC s).toArray).heap.size))
      clear HZ HOK hL7 HSV
      generalize w7.setRow w.heap.size (srC s).toArray = w8 at *
      simp only [Act.put]
      iterate 2 (refine walkS_read (v := _) rfl (by rfl) (by intro y hy; go_simp; try rfl) ?_; simp only [Act.put, List.setIfInBounds_toArray, List.set_cons_zero, List.set_cons_succ])
      unfold walkS
      go_wp2
      exact ret_sr Tryz.results29 rfl rfl rfl HG.out (GivesSr.yes HER.out (by rw [HWD.out]) HVV.out HOK8.out hL8 HFS.out) rfl
    · have heb : (er != 0) = true := by simpa using he
      go_wp2_with (refine wpList_store_sr rfl (.tmp 2) (.tmp 31) rfl w.heap.size rfl zeroSr rfl zeroSr HZ.out ?_; intro w4 HG hb4 ho4 hz4; refine Hid.out ?_)
      refine Lib.hid ?_
      replace HG := Lib.hid HG
      go_wp2_with fail
      exact ret_sr Tryz.results29 rfl rfl rfl HG.out (GivesSr.no HER.out he (Below.trans hL hb4)) rfl
  · have HE := Lib.hid (show errR xs = aheadR xs by unfold errR; rw [if_neg ha])
    rw [(aheadFL_err rfl ha).1, (aheadFL_err rfl ha).2]
    obtain ⟨x, hx⟩ : ∃ x, x = aheadR xs := ⟨_, rfl⟩
    rw [← hx] at ha HE ⊢
    have hxb : (x != 0) = true := by simpa using ha
    clear hx
    go_wp2_with (refine wpList_store_sr rfl (.tmp 2) (.tmp 19) rfl w.heap.size rfl zeroSr rfl zeroSr HZ.out ?_; intro w4 HG hb4 ho4 hz4; refine Hid.out ?_)
    refine Lib.hid ?_
    replace HG := Lib.hid HG
    go_wp2_with fail
    exact ret_sr Tryz.results29 rfl rfl rfl HG.out (GivesSr.no HE.out ha (Below.trans hL hb4)) rfl
end Go.Proofs.YtjafjapnmffohaaGreatDoor

namespace Go.Proofs.YtjafjapnmffohaaGreatDoor
open Go.RowKit
set_option linter.unusedVariables false

theorem aheadR_long {xs : List Int} {n : Nat} (hlen : xs.length = n) (h8 : ¬ n < 8) : aheadR xs = if n < wideR xs then 3 else if xs.getD 2 0 ≠ 4 then 7 else if 10 < manyR xs then 8 else if wideR xs < fromR xs ∨ (manyR xs : Int) ≤ xs.getD 3 0 then 5 else 0 := by unfold aheadR; rw [hlen, if_neg h8]
theorem errR_ahead {xs : List Int} {k : Int} (h : aheadR xs = k) (hk : k ≠ 0) : errR xs = k := by unfold errR; rw [if_neg (by omega), h]

set_option maxRecDepth 100000 in
set_option maxHeartbeats 3200000 in
theorem rsrparse_no (A : Option Addr) (n c : Nat) (xs : List Int) (w : World) (hn : n ≤ 140737488351232) (hb : Bs w w.heap.size A n xs) (ha : aheadR xs ≠ 0) :
    Calls Tryz.prog 32 #[.slice A n c] w (GivesSr w xs) := by
  have hlen := hb.len
  by_cases h8 : n < 8
  · have HA := Lib.hid (errR_ahead (show aheadR xs = 3 by unfold aheadR; rw [if_pos (by omega)]) (by omega))
    have h8' : decide ((n : Int) < 8) = true := by simp; omega
    clear hb hlen ha
    go_enter Tryz.func32, Tryz.ntmps32
    go_wp2_with ((with_reducible refine wpList_alloc_sr rfl rfl ?_); intro w1 HZ hL hz1; refine Hid.out ?_)
    refine Lib.hid ?_
    replace HZ := Lib.hid HZ
    go_wp2_with (refine wpList_store_sr rfl (.tmp 2) (.tmp 27) rfl w.heap.size rfl zeroSr rfl zeroSr HZ.out ?_; intro w4 HG hb4 ho4 hz4; refine Hid.out ?_)
    refine Lib.hid ?_
    replace HG := Lib.hid HG
    go_wp2_with fail
    exact ret_sr Tryz.results32 rfl rfl rfl HG.out (GivesSr.no HA.out (by omega) (Below.trans hL hb4)) rfl
  · have h8' : decide ((n : Int) < 8) = false := by simp; omega
    obtain ⟨b, o, rfl, hbl, hc⟩ := hb.mem (by omega)
    have c1 := hc 1 (by omega)
    have c2 := hc 2 (by omega)
    have c3 := hc 3 (by omega)
    have c4 := hc 4 (by omega)
    obtain ⟨r1, r1'⟩ := hb.nonneg 1
    obtain ⟨r2, r2'⟩ := hb.nonneg 2
    obtain ⟨r3, r3'⟩ := hb.nonneg 3
    obtain ⟨r4, r4'⟩ := hb.nonneg 4
    have hw : (wideR xs : Int) = 8 * xs.getD 1 0 + 8 := by unfold wideR; omega
    have hm : (manyR xs : Int) = xs.getD 4 0 + 1 := by unfold manyR; omega
    have hf : (fromR xs : Int) = 8 + 16 * (xs.getD 4 0 + 1) := by unfold fromR; omega
    have hh := aheadR_long hlen h8
    clear hc hb
    generalize xs.getD 1 0 = x1 at *
    generalize xs.getD 2 0 = x2 at *
    generalize xs.getD 3 0 = x3 at *
    generalize xs.getD 4 0 = x4 at *
    have n1 : (1 : Int) < n := by omega
    have n2 : (2 : Int) < n := by omega
    have n3 : (3 : Int) < n := by omega
    have n4 : (4 : Int) < n := by omega
    have hl0 := Low.alloc w (.cells (srC zeroSr).toArray 30)
    have HCC := Lib.hid (And.intro c1 (And.intro c2 (And.intro c3 c4)))
    clear hl0 c1 c2 c3 c4
    by_cases hs : n < wideR xs
    · have HA := Lib.hid (errR_ahead (hh.trans (if_pos hs)) (by omega))
      have hs' : decide ((n : Int) < 8 * x1 + 8) = true := by simp; omega
      clear hlen ha hh hw hm hf hs h8
      go_enter Tryz.func32, Tryz.ntmps32
      go_wp2_with ((with_reducible refine wpList_alloc_sr rfl rfl ?_); intro w1 HZ hL hz1; refine Hid.out ?_)
      refine Lib.hid ?_
      replace HZ := Lib.hid HZ
      have d1 := (hL.cell (p := ⟨b, o + 1, none⟩) hbl).trans HCC.out.1
      go_wp2_with (refine wpList_store_sr rfl (.tmp 2) (.tmp 27) rfl w.heap.size rfl zeroSr rfl zeroSr HZ.out ?_; intro w4 HG hb4 ho4 hz4; refine Hid.out ?_)
      refine Lib.hid ?_
      replace HG := Lib.hid HG
      go_wp2_with fail
      exact ret_sr Tryz.results32 rfl rfl rfl HG.out (GivesSr.no HA.out (by omega) (Below.trans hL hb4)) rfl
    · replace hh := hh.trans (if_neg hs)
      have hs' : decide ((n : Int) < 8 * x1 + 8) = false := by simp; omega
      by_cases h4 : x2 = 4
      · replace hh := hh.trans (if_neg (by simpa using h4))
        subst h4
        by_cases h10 : 10 < manyR xs
        · have HA := Lib.hid (errR_ahead (hh.trans (if_pos h10)) (by omega))
          have h10' : 10 < x4 + 1 := by omega
          clear hlen ha hh hw hm hf hs h8 h10
          go_enter Tryz.func32, Tryz.ntmps32
          go_wp2_with ((with_reducible refine wpList_alloc_sr rfl rfl ?_); intro w1 HZ hL hz1; refine Hid.out ?_)
          refine Lib.hid ?_
          replace HZ := Lib.hid HZ
          have d1 := (hL.cell (p := ⟨b, o + 1, none⟩) hbl).trans HCC.out.1
          have d2 := (hL.cell (p := ⟨b, o + 2, none⟩) hbl).trans HCC.out.2.1
          have d4 := (hL.cell (p := ⟨b, o + 4, none⟩) hbl).trans HCC.out.2.2.2
          go_wp2_with (refine wpList_store_sr rfl (.tmp 2) (.tmp 46) rfl w.heap.size rfl zeroSr rfl zeroSr HZ.out ?_; intro w4 HG hb4 ho4 hz4; refine Hid.out ?_)
          refine Lib.hid ?_
          replace HG := Lib.hid HG
          go_wp2_with fail
          exact ret_sr Tryz.results32 rfl rfl rfl HG.out (GivesSr.no HA.out (by omega) (Below.trans hL hb4)) rfl
        · replace hh := hh.trans (if_neg h10)
          have h10' : ¬ 10 < x4 + 1 := by omega
          have hor : wideR xs < fromR xs ∨ (manyR xs : Int) ≤ x3 := by
            by_cases hz : wideR xs < fromR xs ∨ (manyR xs : Int) ≤ x3
            · exact hz
            · exact absurd (hh.trans (if_neg hz)) ha
          have HA := Lib.hid (errR_ahead (hh.trans (if_pos hor)) (by omega))
          have hor2 : (decide (8 * x1 + 8 < 8 + 16 * (x4 + 1)) = true) ∨ (decide (8 * x1 + 8 < 8 + 16 * (x4 + 1)) = false ∧ decide (x4 + 1 ≤ x3) = true) := by
            by_cases hz : wideR xs < fromR xs
            · exact .inl (by simp; omega)
            · exact .inr ⟨by simp; omega, by simp; omega⟩
          clear hlen ha hh hw hm hf hs h8 h10 hor
          rcases hor2 with hl' | ⟨hl', hg'⟩
          all_goals
            go_enter Tryz.func32, Tryz.ntmps32
            go_wp2_with ((with_reducible refine wpList_alloc_sr rfl rfl ?_); intro w1 HZ hL hz1; refine Hid.out ?_)
            refine Lib.hid ?_
            replace HZ := Lib.hid HZ
            have d1 := (hL.cell (p := ⟨b, o + 1, none⟩) hbl).trans HCC.out.1
            have d2 := (hL.cell (p := ⟨b, o + 2, none⟩) hbl).trans HCC.out.2.1
            have d3 := (hL.cell (p := ⟨b, o + 3, none⟩) hbl).trans HCC.out.2.2.1
            have d4 := (hL.cell (p := ⟨b, o + 4, none⟩) hbl).trans HCC.out.2.2.2
            go_wp2_with (refine wpList_store_sr rfl (.tmp 2) (.tmp 60) rfl w.heap.size rfl zeroSr rfl zeroSr HZ.out ?_; intro w4 HG hb4 ho4 hz4; refine Hid.out ?_)
            refine Lib.hid ?_
            replace HG := Lib.hid HG
            go_wp2_with fail
            exact ret_sr Tryz.results32 rfl rfl rfl HG.out (GivesSr.no HA.out (by omega) (Below.trans hL hb4)) rfl
      · have HA := Lib.hid (errR_ahead (hh.trans (if_pos h4)) (by omega))
        have h4' : (x2 != 4) = true := by simpa using h4
        clear hlen ha hh hw hm hf hs h8 h4
        go_enter Tryz.func32, Tryz.ntmps32
        go_wp2_with ((with_reducible refine wpList_alloc_sr rfl rfl ?_); intro w1 HZ hL hz1; refine Hid.out ?_)
        refine Lib.hid ?_
        replace HZ := Lib.hid HZ
        have d1 := (hL.cell (p := ⟨b, o + 1, none⟩) hbl).trans HCC.out.1
        have d2 := (hL.cell (p := ⟨b, o + 2, none⟩) hbl).trans HCC.out.2.1
        have d4 := (hL.cell (p := ⟨b, o + 4, none⟩) hbl).trans HCC.out.2.2.2
        go_wp2_with (refine wpList_store_sr rfl (.tmp 2) (.tmp 43) rfl w.heap.size rfl zeroSr rfl zeroSr HZ.out ?_; intro w4 HG hb4 ho4 hz4; refine Hid.out ?_)
        refine Lib.hid ?_
        replace HG := Lib.hid HG
        go_wp2_with fail
        exact ret_sr Tryz.results32 rfl rfl rfl HG.out (GivesSr.no HA.out (by omega) (Below.trans hL hb4)) rfl

theorem slc_wpR {ops : Array Oper} {rest : List Oper} {o : Oper} {a : Act} {w : World} {Q : Exit → Act → World → Prop} (hgd : o.guard = none) (t : TypeId) (x : Operand) (lo hi : Operand) (ho : o.op = .slice t x (some lo) (some hi) none) (v vx vl vh : Value)
    (h : (Instr.sliceAt t vx (some vl) (some vh) none).run Tryz.prog w = .ok v w) (hx : a.eval x = vx) (hl : a.eval lo = vl) (hh : a.eval hi = vh) (hk : wpList Tryz.prog ops Q rest (a.put o.dst v) w) : wpList Tryz.prog ops Q (o :: rest) a w :=
  slc_wp hgd t x (some lo) (some hi) none ho v (by simpa only [Option.map_some, Option.map_none, hx, hl, hh] using h) hk

set_option maxRecDepth 100000 in
set_option maxHeartbeats 6400000 in
theorem rsrparse_yes (A : Option Addr) (n c : Nat) (xs : List Int) (w : World) (hn : n ≤ 140737488351232) (hc : n ≤ c) (hc2 : c ≤ 9223372036854775807) (hb : Bs w w.heap.size A n xs) (ha : aheadR xs = 0) :
    Calls Tryz.prog 32 #[.slice A n c] w (GivesSr w xs) := by
  have hlen := hb.len
  obtain ⟨a1, a2, a3, a4, a5, a6⟩ := aheadR_zero ha
  rw [hlen] at a1 a2
  have hwl := wideR_le hb.all
  have HB0 := Lib.hid hb
  obtain ⟨b, o, rfl, hbl, hcc⟩ := hb.mem (by omega)
  have HCC := Lib.hid hcc
  obtain ⟨r1, r1'⟩ := hb.nonneg 1
  obtain ⟨r3, r3'⟩ := hb.nonneg 3
  obtain ⟨r4, r4'⟩ := hb.nonneg 4
  have hw : (wideR xs : Int) = 8 * xs.getD 1 0 + 8 := by unfold wideR; omega
  have hm : (manyR xs : Int) = xs.getD 4 0 + 1 := by unfold manyR; omega
  have hf : (fromR xs : Int) = 8 + 16 * (xs.getD 4 0 + 1) := by unfold fromR; omega
  have HFR := Lib.hid (show fromR xs = 8 + 16 * manyR xs from rfl)
  have HER := Lib.hid (show errR xs = (partsR xs).2 by unfold errR; rw [if_pos ha])
  have HPL := Lib.hid (partsR_len xs)
  have HPD := Lib.hid (show partsR xs = parseTL ((xs.take (wideR xs)).drop (fromR xs)) from rfl)
  have HSY := Lib.hid (show saysR xs = ⟨xs.getD 0 0, xs.getD 3 0, xs.getD 5 0, num2 xs 6, chunksR (manyR xs) (xs.drop 8), (partsR xs).1⟩ from rfl)
  obtain ⟨wd, hwd⟩ : ∃ wd, wd = wideR xs := ⟨_, rfl⟩
  obtain ⟨fr, hfr⟩ : ∃ fr, fr = fromR xs := ⟨_, rfl⟩
  obtain ⟨k, hk⟩ : ∃ k, k = manyR xs := ⟨_, rfl⟩
  rw [← hwd] at a2 a5 hwl HPL HPD hw
  rw [← hfr] at a5 HFR HPD hf
  rw [← hk] at a4 a6 HFR HSY hm
  have HWD := Lib.hid hwd
  clear ha hwd hfr hk hcc hb
  obtain ⟨A2, hs2, hA2⟩ := slc_both b o n c fr wd (8 + 16 * (xs.getD 4 0 + 1)) (8 * xs.getD 1 0 + 8) hc hf.symm hw.symm a5 (by omega)
  have HB2 := Lib.hid (HB0.out.cut a5 (by omega : wd ≤ n) hA2)
  have HS2 := Lib.hid hs2
  have HM := Lib.hid hm
  have HW := Lib.hid hw
  have c1 := HCC.out 1 (by omega)
  have c2 := HCC.out 2 (by omega)
  have c3 := HCC.out 3 (by omega)
  have c4 := HCC.out 4 (by omega)
  rw [a3] at c2
  generalize xs.getD 1 0 = x1 at *
  generalize hx3 : xs.getD 3 0 = x3 at *
  generalize xs.getD 4 0 = x4 at *
  have n1 : (1 : Int) < n := by omega
  have n2 : (2 : Int) < n := by omega
  have n3 : (3 : Int) < n := by omega
  have n4 : (4 : Int) < n := by omega
  have h8' : decide ((n : Int) < 8) = false := by simp; omega
  have hs' : decide ((n : Int) < 8 * x1 + 8) = false := by simp; omega
  have h10' : ¬ 10 < x4 + 1 := by omega
  have hl' : decide (8 * x1 + 8 < 8 + 16 * (x4 + 1)) = false := by simp; omega
  have hg' : decide (x4 + 1 ≤ x3) = false := by simp; omega
  have HQ := Lib.hid (And.intro c1 (And.intro c2 (And.intro c3 c4)))
  have HX3 := Lib.hid hx3
  clear hs2 hA2 hw hm hf hlen a3 c1 c2 c3 c4 hx3
  go_enter Tryz.func32, Tryz.ntmps32
  go_wp2_with ((with_reducible refine wpList_alloc_sr rfl rfl ?_); intro w1 HZ hL hz1; refine Hid.out ?_)
  refine Lib.hid ?_
  replace HZ := Lib.hid HZ
  have d1 := (hL.cell (p := ⟨b, o + 1, none⟩) hbl).trans HQ.out.1
  have d2 := (hL.cell (p := ⟨b, o + 2, none⟩) hbl).trans HQ.out.2.1
  have d3 := (hL.cell (p := ⟨b, o + 3, none⟩) hbl).trans HQ.out.2.2.1
  have d4 := (hL.cell (p := ⟨b, o + 4, none⟩) hbl).trans HQ.out.2.2.2
  clear hz1
  go_wp2_with (with_reducible_and_instances refine slc_wpR rfl 22 (.tmp 62) (.tmp 65) (.tmp 66) rfl _ _ _ _ (HS2.out w1) rfl rfl rfl ?_; refine Hid.out ?_)
  refine Lib.hid ?_
  clear d1 d2 d3 d4
  go_wp2_with fail
  refine (rtlparse_any A2 (wd - fr) (c - fr) ((xs.take wd).drop fr) w1 (by omega) (by omega) (by omega) (HB2.out.below' hL hL.size)).mono ?_
  rintro e w3 ⟨A3, r5, os, rfl, hv3, ho3, hB3, hf3⟩
  rw [← HPD.out] at hv3 ho3 hf3 ⊢
  have hlt0 := HZ.out.lt
  replace HZ := Lib.hid (HZ.out.below hB3 HZ.out.lt)
  have HF3 := Lib.hid hf3
  have HO3 := Lib.hid ho3
  have HV3 := Lib.hid hv3
  replace hL := hL.trans hB3
  have hlt3 := hB3.size
  obtain ⟨er, her⟩ : ∃ er, er = (partsR xs).2 := ⟨_, rfl⟩
  rw [← her] at HER ⊢
  clear ho3 hf3 hv3 HB2 HS2 her hB3
  by_cases he : er = 0
  · subst he
    obtain ⟨tn, htn⟩ : ∃ tn, tn = (partsR xs).1.length := ⟨_, rfl⟩
    rw [← htn] at HO3 HF3 HPL ⊢
    have htn2 : tn ≤ 2048 := by
      have := HPL.out
      rw [List.length_take] at this
      omega
    clear htn
    go_wp2_with fail
    refine wp_region_planS (fun y => Below w.heap.size w y) (.rd 0 (.rd 1 (.rd 2 (.rd 3 (.rd 4 (.rd 5 (.rd 6 (.rd 7 (.rd 8 (.rd 9 (.rd 10 (.rd 11 (.rd 12 (.rd 13 (.rd 14 (.rd 15 (.rd 16 (.rd 17 (.rd 18 (.rd 19 (.rd 20 (.rd 21 (.rd 22 (.rd 23 (.act 24 (.act 25 (.done)))))))))))))))))))))))))))
      (by kernel_rfl) (by kernel_rfl) (fun _ _ d _ _ h => by cases d <;> exact h) (by kernel_rfl) (Below.drew hL) ?_
    replace HZ : Hid (BlkR w3.drew w.heap.size zeroSr) := HZ
    replace HO3 : Hid (Os w3.drew w3.drew.heap.size A3 tn os) := Lib.hid (HO3.out.keep fun _ _ => rfl)
    replace hL := Below.drew hL
    replace hlt3 : w1.heap.size ≤ w3.drew.heap.size := hlt3
    generalize w3.drew = w4 at *
    have c0 : w.cell? ⟨b, o, none⟩ = some (.int .u8 (xs.getD 0 0)) := HCC.out 0 (by omega)
    have c3 : w.cell? ⟨b, o + 3, none⟩ = some (.int .u8 (xs.getD 3 0)) := HCC.out 3 (by omega)
    have c5 : w.cell? ⟨b, o + 5, none⟩ = some (.int .u8 (xs.getD 5 0)) := HCC.out 5 (by omega)
    have c6 : w.cell? ⟨b, o + 6, none⟩ = some (.int .u8 (xs.getD 6 0)) := HCC.out 6 (by omega)
    have c7 : w.cell? ⟨b, o + 7, none⟩ = some (.int .u8 (xs.getD 7 0)) := HCC.out 7 (by omega)
    rw [HX3.out] at c3
    obtain ⟨y0, y0'⟩ := HB0.out.nonneg 0
    obtain ⟨y5, y5'⟩ := HB0.out.nonneg 5
    obtain ⟨y6, y6'⟩ := HB0.out.nonneg 6
    obtain ⟨y7, y7'⟩ := HB0.out.nonneg 7
    have HTG := Lib.hid (show num2 xs 6 = xs.getD 6 0 * 256 + xs.getD 7 0 from rfl)
    have htg := num2_rangeR HB0.out.all 6
    rw [HTG.out] at HSY htg
    generalize xs.getD 0 0 = x0 at *
    generalize xs.getD 5 0 = x5 at *
    generalize xs.getD 6 0 = x6 at *
    generalize xs.getD 7 0 = x7 at *
    have hw0 : IntKind.i64.wrap x0 = x0 := wraps_i64 _ y0 (by omega)
    have hw3 : IntKind.i64.wrap x3 = x3 := wraps_i64 _ r3 (by omega)
    have hw5 : IntKind.i64.wrap x5 = x5 := wraps_i64 _ y5 (by omega)
    have hw6 : IntKind.i64.wrap x6 = x6 := wraps_i64 _ y6 (by omega)
    have hw6' : IntKind.i64.wrap (x6 * 256) = x6 * 256 := wraps_i64 _ (by omega) (by omega)
    have hw7 : IntKind.i64.wrap x7 = x7 := wraps_i64 _ y7 (by omega)
    have hw67 : IntKind.i64.wrap (x6 * 256 + x7) = x6 * 256 + x7 := wraps_i64 _ (by omega) (by omega)
    have n0 : 0 < n := by omega
    have n5 : (5 : Int) < n := by omega
    have n6 : (6 : Int) < n := by omega
    have n7 : (7 : Int) < n := by omega
    iterate 24 (refine walkS_read (v := _) rfl (by rfl) (by intro y hy; have e0 := (hy.cell (p := ⟨b, o, none⟩) hbl).trans c0; have e3 := (hy.cell (p := ⟨b, o + 3, none⟩) hbl).trans c3; have e5 := (hy.cell (p := ⟨b, o + 5, none⟩) hbl).trans c5; have e6 := (hy.cell (p := ⟨b, o + 6, none⟩) hbl).trans c6; have e7 := (hy.cell (p := ⟨b, o + 7, none⟩) hbl).trans c7; go_simp; try rfl) ?_; simp only [Act.put, List.setIfInBounds_toArray, List.set_cons_zero, List.set_cons_succ])
    clear c0 c3 c5 c6 c7 n0 n1 n2 n3 n4 n5 n6 n7 hw0 hw3 hw5 hw6 hw6' hw7 hw67 HTG
    generalize x6 * 256 + x7 = tg at *
    have hz4 : w.heap.size < w4.heap.size := HZ.out.lt
    refine walkS_act rfl (by rfl) (fun K hK => ?_)
    refine wp_alloc_v 30 rfl (srC zeroSr) sr_zero ?_
    have hlA := Low.alloc w4 (.cells (srC zeroSr).toArray 30)
    refine hK _ _ (hL.trans (hlA.mono hL.size)) ?_
    clear hK K
    replace HZ := Lib.hid (HZ.out.below hlA HZ.out.lt)
    have HN := Lib.hid (BlkV.new w4 30 (srC zeroSr))
    have hz5 : (w4.alloc (.cells (srC zeroSr).toArray 30)).heap.size = w4.heap.size + 1 := by simp
    replace HO3 := Lib.hid (HO3.out.below hlA)
    replace hL := hL.trans (hlA.mono hL.size)
    obtain ⟨g9, hg9⟩ : ∃ g, g = w4.heap.size := ⟨_, rfl⟩
    rw [← hg9] at HN HO3 hz5 hz4 hlt3 ⊢
    clear hlA hg9
    generalize w4.alloc (.cells (srC zeroSr).toArray 30) = w5 at *
    simp only [Act.put, List.setIfInBounds_toArray, List.set_cons_zero, List.set_cons_succ]
    refine walkS_act rfl (by rfl) (fun K hK => ?_)
    refine wp_store_row 30 (.tmp 9) (.tmp 98) rfl g9 (srC ⟨x0, x3, x5, tg, none, 0, 0, [], A3, tn, r5, os⟩).toArray rfl rfl 30 _ HN.out (by rw [sr_size]; rfl) rfl (srC_one _) ?_
    have hlB := low_setRow w5 g9 (srC ⟨x0, x3, x5, tg, none, 0, 0, [], A3, tn, r5, os⟩).toArray (Nat.le_refl _)
    refine hK _ _ (hL.trans (hlB.mono (by omega))) ?_
    clear hK K
    have HH : Hid (BlkR (w5.setRow g9 (srC ⟨x0, x3, x5, tg, none, 0, 0, [], A3, tn, r5, os⟩).toArray) g9 ⟨x0, x3, x5, tg, none, 0, 0, [], A3, tn, r5, os⟩) := Lib.hid (BlkV.setRow HN.out _)
    replace HZ := Lib.hid (HZ.out.below hlB hz4)
    replace HO3 := Lib.hid (HO3.out.below hlB)
    replace hL := hL.trans (hlB.mono (by omega))
    have hz6 : (w5.setRow g9 (srC ⟨x0, x3, x5, tg, none, 0, 0, [], A3, tn, r5, os⟩).toArray).heap.size = g9 + 1 := by simp [hz5]
    clear hlB HN hz5
    generalize w5.setRow g9 (srC ⟨x0, x3, x5, tg, none, 0, 0, [], A3, tn, r5, os⟩).toArray = w6 at *
    unfold walkS
    simp only [Act.put]
    go_wp2_with fail
    have hbr0 := Lib.hid (Below.refl g9 w6)
    go_loopw [10] (fun i wr => ∃ j A' c', j ≤ k ∧ i = .int .i64 (j : Nat) ∧ Hid (BlkR wr g9 ⟨x0, x3, x5, tg, A', j, c', chunksR j (xs.drop 8), A3, tn, r5, os⟩) ∧ Hid (OwnA 24 wr (g9 + 1) A' j c' (chunksR j (xs.drop 8))) ∧ Hid (Below g9 w6 wr) ∧ g9 + 1 ≤ wr.heap.size) (fun i _ => k - (intOf i).toNat)
    case atStart => exact ⟨0, none, 0, Nat.zero_le _, rfl, HH, Lib.hid (OwnA.none_ _ _ _), hbr0, by omega⟩
    case round =>
      clear HH hbr0
      obtain ⟨j, A', c', hj, rfl, HH, HO, HBR, hzr⟩ := hrel
      obtain ⟨wo, rfl⟩ : ∃ wo, wo = wr := ⟨_, rfl⟩
      have hmk := HM.out
      by_cases hjk : j < k
      · have hd : (j : Int) < x4 + 1 := by omega
        have hfr := HFR.out
        have hx16 : (((xs.drop 8).drop (j * 16)).take 16).length = 16 := by
          rw [List.length_take, List.length_drop, List.length_drop, HB0.out.len]
          omega
        have HXA := Lib.hid ((HB0.out.all.drop 8).drop (j * 16) |>.take 16)
        have HXC := Lib.hid (show ∀ p, p < 16 → w.cell? ⟨b, o + (8 + 16 * j + p), none⟩ = some (.int .u8 ((((xs.drop 8).drop (j * 16)).take 16).getD p 0)) from fun p hp => by
          rw [HCC.out (8 + 16 * j + p) (by omega)]
          simp only [List.getD, List.getElem?_take, List.getElem?_drop, hp, if_true]
          rw [show 8 + (j * 16 + p) = 8 + 16 * j + p by omega])
        have HCS := Lib.hid (chunksR_succ j (xs.drop 8))
        generalize ((xs.drop 8).drop (j * 16)).take 16 = x at *
        have HX16 := Lib.hid hx16
        have h24 : 8 + 16 * j + 16 ≤ n := by omega
        clear hfr hmk hx16
        go_wp2_with ((with_reducible refine wpList_alloc_v rfl 24 rfl (cellsB zero16) addr_zeroR ?_); intro w7 HZ7 hl7 hz7; refine Hid.out ?_)
        refine Lib.hid ?_
        obtain ⟨g11, hg11⟩ : ∃ g, g = wo.heap.size := ⟨_, rfl⟩
        rw [← hg11] at HZ7 hz7 hzr ⊢
        have hl7' : Below g11 wo w7 := by rw [hg11]; exact hl7
        have HK7 : Hid (Blk w7 24 g11 zero16) := Lib.hid HZ7
        have hbb : b < g11 := by omega
        have HB7 := Lib.hid (Below.trans hL ((HBR.out.trans (hl7'.mono (by omega))).mono (by omega : w.heap.size ≤ g9)))
        have HG11 := Lib.hid hg11
        clear HZ7 hl7 hg11
        go_wp2_with fail
        have hre := Lib.hid (Below.refl g11 w7)
        go_loopw [12] (fun v wq => ∃ p, p ≤ 16 ∧ v = .int .i64 (p : Nat) ∧ Hid (Blk wq 24 g11 (x.take p ++ zero16.drop p)) ∧ Hid (Below g11 w7 wq) ∧ wq.heap.size = g11 + 1) (fun v _ => 16 - (intOf v).toNat)
        case atStart => exact ⟨0, Nat.zero_le _, rfl, HK7, hre, hz7⟩
        case round =>
          clear HK7 hre hz7
          obtain ⟨p, hp, rfl, HK, HBQ, hzq⟩ := hrel
          by_cases hp16 : p < 16
          · have cx := (HB7.out.cell (p := ⟨b, o + (8 + 16 * j + p), none⟩) hbl).trans (HXC.out p hp16)
            replace cx := (HBQ.out.cell (p := ⟨b, o + (8 + 16 * j + p), none⟩) hbb).trans cx
            have hsome : wr.cell? ⟨g11, p, none⟩ = some (.int .u8 ((x.take p ++ zero16.drop p).getD p 0)) := by
              rw [HK.out.cell p, cellsB_get]
              rw [List.length_append, List.length_take, List.length_drop, HX16.out]
              show p < min p 16 + (16 - p)
              omega
            have hfz := HK.out.frozen p
            have HPS := Lib.hid (pref_set zero16 x p rfl HX16.out hp16)
            have ti : (8 + 16 * (j : Int) + (p : Int)).toNat = 8 + 16 * j + p := by omega
            have i1 : 8 + 16 * (j : Int) + (p : Int) < n := by omega
            have v1 : IntKind.i64.wrap (16 * (j : Int)) = 16 * (j : Int) := wraps_i64 _ (by omega) (by omega)
            have v2 : IntKind.i64.wrap (8 + 16 * (j : Int)) = 8 + 16 * (j : Int) := wraps_i64 _ (by omega) (by omega)
            have v3 : IntKind.i64.wrap (8 + 16 * (j : Int) + (p : Int)) = 8 + 16 * (j : Int) + (p : Int) := wraps_i64 _ (by omega) (by omega)
            generalize x.getD p 0 = y at *
            generalize (x.take p ++ zero16.drop p).getD p 0 = y0 at *
            go_wp2_with fail
            have hset := HK.out.set_ p y
            rw [HPS.out] at hset
            have HS2 := Lib.hid hset
            have HBQ2 := Lib.hid (HBQ.out.setCell (p := ⟨g11, p, none⟩) (Nat.le_refl _) (.int .u8 y))
            have hzq2 : (wr.setCell ⟨g11, p, none⟩ (.int .u8 y)).heap.size = g11 + 1 := by simp [World.setCell, hzq]
            exact ⟨⟨p + 1, by omega, by go_num, HS2, HBQ2, hzq2⟩, by simp [intOf]; omega⟩
          · obtain rfl : p = 16 := by omega
            have hxt : x.take 16 ++ zero16.drop 16 = x := by rw [List.take_of_length_le (by rw [HX16.out]; omega), show zero16.drop 16 = [] from rfl, List.append_nil]
            rw [hxt] at HK
            have hl8 : Below g11 wo wr := hl7'.trans HBQ.out
            have hxl := HX16.out
            have hHH := HH.out.below hl8 (by omega)
            have c4 := (BlkR.cells hHH).2.2.2.2.1
            have HHH := Lib.hid hHH
            have HL8 := Lib.hid hl8
            obtain ⟨i0, hi, hz0, hz1, hz2⟩ := info_parts info_addrR
            have HI := Lib.hid (And.intro hi (And.intro hz0 (And.intro hz1 hz2)))
            clear hxt hl8 hHH hl7' hi hz0 hz1 hz2
            go_wp2_with (first | (with_reducible refine wpList_load_addr rfl (.tmp 11) rfl g11 rfl _ x HK.out hxl ?_) | (with_reducible refine wpList_one_addr rfl (.tmp 120) rfl x rfl hxl ?_; intro w8 HK8 hl9 hz8; refine Hid.out ?_))
            refine Lib.hid ?_
            have hl89 : Low wr w8 := hl9
            have hlo : Below g11 wo w8 := HL8.out.trans (hl9.mono (by omega))
            have hown0 := HO.out.below (w' := w8) (by rw [← HG11.out]; exact hlo)
            have hlt2 := hown0.lt
            have hsrc := As.of_blk (B := w8.heap.size) HK8 hxl HXA.out (by omega)
            rw [hzq] at hsrc
            have hz9 : g9 + 1 ≤ w8.heap.size := by omega
            have HHH8 := Lib.hid (HHH.out.below hl9 (by omega))
            have HB8 := Lib.hid (HBR.out.trans (hlo.mono (by omega)))
            obtain ⟨hi, hz0, hz1, hz2⟩ := HI.out
            clear HK8 hl9 hz8 HO hl89 hlo c4
            go_wp2_with (at_builtin; refine wpList_append_as rfl _ _ 27 rfl (g9 + 1) 24 i0 Tryz.underlying27 hi hz0 hz1 hz2 A' j c' (chunksR j (xs.drop 8)) rfl hown0 _ 1 1 w8.heap.size [x] rfl hsrc (by omega) hz9 ?_; intro A5 c5 w9 hown9 hgr hob; refine Hid.out ?_)
            refine Lib.hid ?_
            rw [← HCS.out] at hown9
            have hne : some g9 ≠ (Value.slice A' j c').ownBlock := fun e => by have := (hlt2 g9 e.symm).1; omega
            have hHH9 : BlkR w9 g9 ⟨x0, x3, x5, tg, A', j, c', chunksR j (xs.drop 8), A3, tn, r5, os⟩ := (hgr.block _ (by omega) hne).trans HHH8.out
            have hb9 := HB8.out.grown hgr (by omega) fun k e => by have := (hlt2 k e).1; omega
            have hz10 := Nat.le_trans hz9 hgr.size
            have c4 := (BlkR.cells hHH9).2.2.2.2.1
            have f4 := hHH9.frozen 4
            have HH9 := Lib.hid hHH9
            have HOW := Lib.hid hown9
            have HB9 := Lib.hid hb9
            dsimp only at c4
            clear hgr hob hown9 hown0 hsrc hi hz0 hz1 hz2 hne hHH9 hlt2 hb9
            go_wp2_with fail
            have hset := BlkV.set_ HH9.out 4 (.slice A5 (j + 1) c5)
            have HS3 : Hid (BlkR (w9.setCell ⟨g9, 4, none⟩ (.slice A5 (j + 1) c5)) g9 ⟨x0, x3, x5, tg, A5, j + 1, c5, chunksR (j + 1) (xs.drop 8), A3, tn, r5, os⟩) := Lib.hid hset
            have HO3' := Lib.hid (HOW.out.other (w' := w9.setCell ⟨g9, 4, none⟩ (.slice A5 (j + 1) c5)) (Nat.lt_succ_self g9) (fun q hq => Below.heap_setCell w9 ⟨g9, 4, none⟩ _ q hq))
            have HB10 := Lib.hid (HB9.out.setCell (p := ⟨g9, 4, none⟩) (Nat.le_refl _) (.slice A5 (j + 1) c5))
            have hz11 : g9 + 1 ≤ (w9.setCell ⟨g9, 4, none⟩ (.slice A5 (j + 1) c5)).heap.size := by simp [World.setCell]; omega
            exact ⟨⟨j + 1, A5, c5, by omega, by go_num, HS3, HO3', HB10, hz11⟩, by simp [intOf]; omega⟩
      · obtain rfl : j = k := by omega
        have hd : ¬ (j : Int) < x4 + 1 := by omega
        have hlz := HZ.out.below HBR.out (by omega)
        have hlt9 : w.heap.size < g9 := hz4
        have HZ2 := Lib.hid hlz
        obtain ⟨s, hs⟩ : ∃ s : Sr, s = ⟨x0, x3, x5, tg, A', j, c', chunksR j (xs.drop 8), A3, tn, r5, os⟩ := ⟨_, rfl⟩
        rw [← hs] at HH
        have HVV := Lib.hid (show s.v = saysR xs by rw [hs, HSY.out, ← HV3.out]; rfl)
        have HOK := Lib.hid (show s.ok wo wo.heap.size by
          rw [hs]
          exact ⟨by unfold i64ok; dsimp only; omega, by unfold i64ok; dsimp only; omega, by unfold i64ok; dsimp only; omega, by unfold i64ok; dsimp only; omega, by dsimp only; omega, HO.out.lies (Nat.le_refl _), by dsimp only; omega, (HO3.out.below HBR.out).more (by omega)⟩)
        have HFS := Lib.hid (show s.from_ (w.heap.size + 1) by
          rw [hs]
          exact ⟨HO.out.from_.less (by omega), HF3.out.lessR (by omega)⟩)
        have HLO := Lib.hid (Below.trans hL (HBR.out.mono (by omega : w.heap.size ≤ g9)))
        clear hs hlz HO HBR hmk
        go_wp2_with (first
          | (with_reducible refine wpList_load_sr rfl (.tmp 9) rfl g9 rfl s HH.out ?_)
          | (refine wpList_store_sr rfl (.tmp 2) (.tmp 124) rfl w.heap.size rfl s rfl zeroSr HZ2.out ?_; intro w10 HG hb10 ho10 hz12; refine Hid.out ?_))
        refine Lib.hid ?_
        replace HG := Lib.hid HG
        have HOK10 := Lib.hid ((HOK.out.upper HFS.out (fun p hp _ => ho10 p (by omega))).more (by omega : wo.heap.size ≤ w10.heap.size))
        have HL10 := Lib.hid (Below.trans HLO.out hb10)
        clear ho10 hb10 hz12
        go_wp2_with fail
        exact ret_sr Tryz.results32 rfl rfl rfl HG.out (GivesSr.yes HER.out (by rw [← HWD.out]; exact HW.out) HVV.out HOK10.out HL10.out HFS.out) rfl
  · have heb : (er != 0) = true := by simpa using he
    go_wp2_with (refine wpList_store_sr rfl (.tmp 2) (.tmp 73) rfl w.heap.size rfl zeroSr rfl zeroSr HZ.out ?_; intro w4 HG hb4 ho4 hz4; refine Hid.out ?_)
    refine Lib.hid ?_
    replace HG := Lib.hid HG
    go_wp2_with fail
    exact ret_sr Tryz.results32 rfl rfl rfl HG.out (GivesSr.no HER.out he (Below.trans hL hb4)) rfl
theorem rsrparse_any (A : Option Addr) (n c : Nat) (xs : List Int) (w : World) (hn : n ≤ 140737488351232) (hc : n ≤ c) (hc2 : c ≤ 9223372036854775807) (hb : Bs w w.heap.size A n xs) :
    Calls Tryz.prog 32 #[.slice A n c] w (GivesSr w xs) := by
  by_cases ha : aheadR xs = 0
  · exact rsrparse_yes A n c xs w hn hc hc2 hb ha
  · exact rsrparse_no A n c xs w hn hb ha
end Go.Proofs.YtjafjapnmffohaaGreatDoor

namespace Go.Proofs.YtjafjapnmffohaaGreatDoor
open Go.RowKit
set_option linter.unusedVariables false

end Go.Proofs.YtjafjapnmffohaaGreatDoor

namespace Go.Proofs.YtjafjapnmffohaaGreatDoor
open Go.RowKit
set_option linter.unusedVariables false

def one16 : List Int := [0, 0, 0, 0, 0, 0, 0, 0, 0, 0, 0, 0, 0, 0, 0, 1]
theorem one16_all : AllB one16 := fun x hx => by
  have : x = 0 ∨ x = 1 := by simpa [one16] using hx
  omega
def exRb : Rb := ⟨6, 0, 0, 0, [one16], []⟩
theorem exRb_can : canR exRb = 0 := by decide
theorem exRb_len : (putR exRb).length = 24 := by decide
theorem exRb_short : errR ((putR exRb).take 23) = 3 := by decide
theorem exRb_there : thereR [one16] 0 = true := by decide
theorem exRb_seg : segR [one16] 0 = one16 := by decide
theorem zeroRb_can : canR zeroRb = 8 := by decide
theorem zeroSr_v : zeroSr.v = zeroRb := rfl

end Go.Proofs.YtjafjapnmffohaaGreatDoor
