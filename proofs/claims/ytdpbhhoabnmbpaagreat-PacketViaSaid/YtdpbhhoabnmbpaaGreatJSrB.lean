/- Texts joined.
  What srh.ahead and srh.segments answer: what stands ahead of a routing header's parts. Condition: at most 2^47 bytes.
  What srh.Parse answers: the routing header that bytes begin with. Condition: at most 2^47 - 4096 bytes.
  What the document's own Parse answers: the routing header that bytes begin with. Condition: at most 2^47 - 4096 bytes.
  What the document's Same answers of two routing headers that say the same: true. Condition: at most 2^47 segments and parts.
  What the laws' own small test of routing headers answers: true. No condition.
-/
import Derived.Test.YtdpbhhoabnmbpaaGreatJSrA
import Derived.Test.YtdpbhhoabnmbpaaGreatSlc
import Derived.OwnWalk
import Derived.Test.YtdpbhhoabnmbpaaGreatJTl
import Derived.Test.YtdpbhhoabnmbpaaGreatJTp
import Derived.Test.YtdpbhhoabnmbpaaGreatJReg
import Derived.Test.YtdpbhhoabnmbpaaGreatEq
set_option maxRecDepth 100000
namespace Go.Proofs.YtdpbhhoabnmbpaaGreat
open Go.RowKit
set_option linter.unusedVariables false

def aheadF (xs : List Int) : Nat := if aheadR xs = 0 then fromR xs else 0
def aheadL (xs : List Int) : Nat := if aheadR xs = 0 then wideR xs else 0
theorem aheadFL_err {xs : List Int} {k : Int} (h : aheadR xs = k) (hk : k ≠ 0) : aheadF xs = 0 ∧ aheadL xs = 0 := by
  unfold aheadF aheadL
  rw [if_neg (by omega), if_neg (by omega)]
  exact ⟨rfl, rfl⟩
/-- nothing, and why -/
def GivesAh (w : World) (xs : List Int) (e : Ending) (w' : World) : Prop :=
  e = .returned (.tuple #[.int .i64 (aheadF xs), .int .i64 (aheadL xs), .int .i64 (aheadR xs)]) ∧ w' = w
theorem GivesAh.no {w : World} {xs : List Int} {k : Int} (h : aheadR xs = k) (hk : k ≠ 0) : GivesAh w xs (.returned (.tuple #[.int .i64 0, .int .i64 0, .int .i64 k])) w := by
  obtain ⟨h1, h2⟩ := aheadFL_err h hk
  refine ⟨?_, rfl⟩
  rw [h1, h2, h]
  rfl
theorem GivesAh.yes {w : World} {xs : List Int} {f l : Int} (h : aheadR xs = 0) (hf : (fromR xs : Int) = f) (hl : (wideR xs : Int) = l) : GivesAh w xs (.returned (.tuple #[.int .i64 f, .int .i64 l, .int .i64 0])) w := by
  refine ⟨?_, rfl⟩
  unfold aheadF aheadL
  rw [if_pos h, if_pos h, hf, hl, h]

set_option maxRecDepth 100000 in
set_option maxHeartbeats 1600000 in
theorem ahead10_any (A : Option Addr) (n c : Nat) (xs : List Int) (w : World) (hn : n ≤ 140737488355328) (hb : Bs w w.heap.size A n xs) :
    Calls Tryz.prog 81 #[.slice A n c] w (GivesAh w xs) := by
  have hlen := hb.len
  by_cases h8 : n < 8
  · have HA := Lib.hid (show aheadR xs = 3 by unfold aheadR; rw [if_pos (by omega)])
    clear hb hlen
    go_enter Tryz.func81, Tryz.ntmps81
    go_wp2_with fail
    go_ret3
    exact GivesAh.no HA.out (by omega)
  · obtain ⟨b, o, rfl, -, hc⟩ := hb.mem (by omega)
    have c1 := hc 1 (by omega)
    have c2 := hc 2 (by omega)
    have c3 := hc 3 (by omega)
    have c4 := hc 4 (by omega)
    obtain ⟨r1, r1'⟩ := hb.nonneg 1
    obtain ⟨r2, r2'⟩ := hb.nonneg 2
    obtain ⟨r3, r3'⟩ := hb.nonneg 3
    obtain ⟨r4, r4'⟩ := hb.nonneg 4
    have hw : (wideR xs : Int) = 8 * (xs.getD 1 0 + 1) := by unfold wideR; omega
    have hm : (manyR xs : Int) = xs.getD 4 0 + 1 := by unfold manyR; omega
    have hf : (fromR xs : Int) = 8 + 16 * (xs.getD 4 0 + 1) := by unfold fromR; omega
    have ha : aheadR xs = if n < wideR xs then 3 else if xs.getD 2 0 ≠ 4 then 7 else if 10 < manyR xs then 8 else if wideR xs < fromR xs ∨ (manyR xs : Int) ≤ xs.getD 3 0 then 5 else 0 := by unfold aheadR; rw [hlen, if_neg h8]
    clear hc hb
    have HW := Lib.hid hw
    have HF := Lib.hid hf
    generalize xs.getD 1 0 = x1 at *
    generalize xs.getD 2 0 = x2 at *
    generalize xs.getD 3 0 = x3 at *
    generalize xs.getD 4 0 = x4 at *
    by_cases hs : n < wideR xs
    · have HA := Lib.hid (ha.trans (if_pos hs))
      have hs' : (n : Int) < 8 * (x1 + 1) := by omega
      clear hlen ha hw hm hf hs
      go_enter Tryz.func81, Tryz.ntmps81
      go_wp2_with fail
      go_ret3
      exact GivesAh.no HA.out (by omega)
    · replace ha := ha.trans (if_neg hs)
      have hs' : ¬ (n : Int) < 8 * (x1 + 1) := by omega
      by_cases h4 : x2 = 4
      · replace ha := ha.trans (if_neg (by simpa using h4))
        subst h4
        by_cases h10 : 10 < manyR xs
        · have HA := Lib.hid (ha.trans (if_pos h10))
          have h10' : 10 < x4 + 1 := by omega
          clear hlen ha hw hm hf hs h10
          go_enter Tryz.func81, Tryz.ntmps81
          go_wp2_with fail
          go_ret3
          exact GivesAh.no HA.out (by omega)
        · replace ha := ha.trans (if_neg h10)
          have h10' : ¬ 10 < x4 + 1 := by omega
          by_cases hl : wideR xs < fromR xs
          · have HA := Lib.hid (ha.trans (if_pos (.inl hl)))
            have hl' : decide (8 * (x1 + 1) < 8 + 16 * (x4 + 1)) = true := by simp; omega
            clear hlen ha hw hm hf hs h10 hl
            go_enter Tryz.func81, Tryz.ntmps81
            go_wp2_with fail
            go_ret3
            exact GivesAh.no HA.out (by omega)
          · have hl' : decide (8 * (x1 + 1) < 8 + 16 * (x4 + 1)) = false := by simp; omega
            by_cases hg : (manyR xs : Int) ≤ x3
            · have HA := Lib.hid (ha.trans (if_pos (.inr hg)))
              have hg' : decide (x4 + 1 ≤ x3) = true := by simp; omega
              clear hlen ha hw hm hf hs h10 hl hg
              go_enter Tryz.func81, Tryz.ntmps81
              go_wp2_with fail
              go_ret3
              exact GivesAh.no HA.out (by omega)
            · have HA := Lib.hid (ha.trans (if_neg (by omega)))
              have hg' : decide (x4 + 1 ≤ x3) = false := by simp; omega
              clear hlen ha hw hm hf hs h10 hl hg
              go_enter Tryz.func81, Tryz.ntmps81
              go_wp2_with fail
              go_ret3
              exact GivesAh.yes HA.out HF.out HW.out
      · have HA := Lib.hid (ha.trans (if_pos h4))
        have h4' : (x2 != 4) = true := by simpa using h4
        clear hlen ha hw hm hf hs h4
        go_enter Tryz.func81, Tryz.ntmps81
        go_wp2_with fail
        go_ret3
        exact GivesAh.no HA.out (by omega)

/-- addresses of the call's own are handed back -/
def GivesAs (w : World) (l : List (List Int)) (e : Ending) (w' : World) : Prop :=
  ∃ A c, e = .returned (.slice A l.length c) ∧ OwnA 24 w' w.heap.size A l.length c l ∧ Below w.heap.size w w'
theorem GivesAs.of {w w' : World} {l l' : List (List Int)} {A : Option Addr} {n c : Nat} (h : l = l') (ho : OwnA 24 w' w.heap.size A n c l') (hB : Below w.heap.size w w') : GivesAs w l (.returned (.slice A n c)) w' := by
  subst h
  have hl := ho.2.2
  subst hl
  exact ⟨A, c, rfl, ho, hB⟩
/-- 16 bytes of a slice, and no room behind them -/
theorem slc_sixteen (b o n c : Nat) (h16 : 16 ≤ n) (hc : n ≤ c) (hc2 : c ≤ 9223372036854775807) :
    ∀ u, (Instr.sliceAt 22 (.slice (some ⟨b, o, none⟩) n c) none (some (.int .i64 16)) (some (.int .i64 16))).run Tryz.prog u = .ok (.slice (some ⟨b, o, none⟩) 16 16) u := by
  intro u
  have i1 : (16 : Int) ≤ c := by omega
  go_simp
theorem Bs.range {w : World} {B n b o : Nat} {xs : List Int} (h : Bs w B (some ⟨b, o, none⟩) n xs) (h16 : 16 ≤ n) : b < B ∧ w.rangeAt b o (cellsB (xs.take 16)) := by
  obtain ⟨b', o', e, hb, hc⟩ := h.mem (by omega)
  injection e with e
  injection e with e1 e2 _
  subst e1 e2
  refine ⟨hb, fun j v hv => ?_⟩
  have hl := h.len
  have hj : j < 16 := by
    have := (List.getElem?_eq_some_iff.1 hv).1
    rw [cellsB_length, List.length_take] at this
    omega
  rw [cellsB_get (by rw [List.length_take]; omega)] at hv
  rw [← hv, hc j (by omega)]
  simp [List.getD, hj]

theorem list16R (s : List Int) (h : s.length = 16) : ∃ s0 s1 s2 s3 s4 s5 s6 s7 s8 s9 s10 s11 s12 s13 s14 s15, s = [s0, s1, s2, s3, s4, s5, s6, s7, s8, s9, s10, s11, s12, s13, s14, s15] := by
  match s, h with
  | [s0, s1, s2, s3, s4, s5, s6, s7, s8, s9, s10, s11, s12, s13, s14, s15], _ => exact ⟨s0, s1, s2, s3, s4, s5, s6, s7, s8, s9, s10, s11, s12, s13, s14, s15, rfl⟩
theorem run_one_lit (s0 s1 s2 s3 s4 s5 s6 s7 s8 s9 s10 s11 s12 s13 s14 s15 : Int) (w : World) : (Instr.buildSlice 27 1 #[(0, .agg (cellsB [s0, s1, s2, s3, s4, s5, s6, s7, s8, s9, s10, s11, s12, s13, s14, s15]).toArray)]).run Tryz.prog w = .ok (.slice (some ⟨w.heap.size, 0, none⟩) 1 1) (w.alloc (.cells (cellsB [s0, s1, s2, s3, s4, s5, s6, s7, s8, s9, s10, s11, s12, s13, s14, s15]).toArray 24)) := by kernel_rfl
theorem run_one_addr (s : List Int) (hs : s.length = 16) (w : World) : (Instr.buildSlice 27 1 #[(0, .agg (cellsB s).toArray)]).run Tryz.prog w = .ok (.slice (some ⟨w.heap.size, 0, none⟩) 1 1) (w.alloc (.cells (cellsB s).toArray 24)) := by
  obtain ⟨s0, s1, s2, s3, s4, s5, s6, s7, s8, s9, s10, s11, s12, s13, s14, s15, rfl⟩ := list16R s hs
  exact run_one_lit _ _ _ _ _ _ _ _ _ _ _ _ _ _ _ _ w
theorem wpList_one_addr {ops : Array Oper} {rest : List Oper} {o : Oper} {a : Act} {w : World} {Q : Exit → Act → World → Prop} (hgd : o.guard = none) (x : Operand) (ho : o.op = .buildSlice 27 1 #[(0, x)]) (s : List Int) (hx : a.eval x = .agg (cellsB s).toArray) (hs : s.length = 16)
    (hk : ∀ w', Blk w' 24 w.heap.size s → Low w w' → w'.heap.size = w.heap.size + 1 → wpList Tryz.prog ops Q rest (a.put o.dst (.slice (some ⟨w.heap.size, 0, none⟩) 1 1)) w') : wpList Tryz.prog ops Q (o :: rest) a w :=
  wpList_plain hgd fun K hK => by
    unfold Oper.wp execOp
    simp only [ho, List.map_toArray, List.map_cons, List.map_nil, hx, Sem.run_bind, run_one_addr s hs, Result.andThen_ok, Sem.run_pure]
    exact hK _ _ (hk _ (Blk.new w _ s) (Low.alloc w _) (by simp))
theorem run_sixteenR (b o : Nat) (u : World) : (Instr.arrayAt 24 (.slice (some ⟨b, o, none⟩) 16 16)).run Tryz.prog u = .ok (.pointer (some ⟨b, o, none⟩)) u := by kernel_rfl
def roomR : Value → Nat
  | .slice _ m _ => m
  | _ => 0

set_option maxRecDepth 100000 in
set_option maxHeartbeats 1600000 in
theorem segments_any (A : Option Addr) (n c k : Nat) (xs : List Int) (w : World) (hk : k ≤ 10) (hn : n = k * 16) (hc : n ≤ c) (hc2 : c ≤ 9223372036854775807) (hb : Bs w w.heap.size A n xs) :
    Calls Tryz.prog 83 #[.slice A n c] w (GivesAs w (chunksR k xs)) := by
  obtain ⟨i0, hi, hz0, hz1, hz2⟩ := info_parts info_addrR
  have hlen := hb.len
  have hdiv : (n : Int) / 16 = (k : Nat) := by omega
  have hB0 := Lib.hid hb
  have HN := Lib.hid hn
  have hn160 : n ≤ 160 := by omega
  clear hb hlen hn
  go_enter Tryz.func83, Tryz.ntmps83
  go_wp2_with (refine wpList_make_own w rfl (.const (.int .i64 0)) (.tmp 7) 27 rfl w.heap.size 24 i0 (addrV zero16) 16 Tryz.underlying27 hi hz0 hz1 .i64 .i64 (k : Int) k rfl rfl rfl (by rw [hz2]; omega) (by simp only [maxLen]; omega) (Nat.le_refl _) ?_; intro w1 hr1 hg1; refine Hid.out ?_)
  refine Lib.hid ?_
  have HR1 : Hid (OwnA 24 w1 w.heap.size (some ⟨w.heap.size, 0, none⟩) 0 k []) := Lib.hid ⟨hr1, AllA.nil, rfl⟩
  have HB1 := Lib.hid ((Below.refl w.heap.size w).grown hg1 (Nat.le_refl _) (fun k e => by cases e))
  have HZ1 := Lib.hid hg1.size
  clear hr1 hg1
  go_wp2_with fail
  go_loopw [0, 3] (fun b l wr => ∃ j bA m bc A' c', j ≤ k ∧ b = .slice bA m bc ∧ l = .slice A' j c' ∧ Hid (m = (k - j) * 16) ∧ m ≤ 160 ∧ m ≤ bc ∧ bc ≤ 9223372036854775807 ∧ Hid (Bs w w.heap.size bA m (xs.drop (j * 16))) ∧ OwnA 24 wr w.heap.size A' j c' (chunksR j xs) ∧ Below w.heap.size w wr ∧ w.heap.size ≤ wr.heap.size) (fun b _ _ => roomR b)
  case atStart => exact ⟨0, A, n, c, _, k, Nat.zero_le _, rfl, rfl, Lib.hid (by rw [HN.out]; omega), hn160, hc, hc2, Lib.hid (by simpa using hB0.out), HR1.out, HB1.out, HZ1.out⟩
  case round =>
    clear HR1 HB1 HZ1
    obtain ⟨j, bA, m, bc, A', c', hj, rfl, rfl, HM, hm, hbc, hbc2, HBS, hown, hbr, hzr⟩ := hrel
    by_cases hjk : j < k
    · have hm16 : 16 ≤ m := by have := HM.out; omega
      obtain ⟨b, o, rfl, -, -⟩ := HBS.out.mem (by omega)
      obtain ⟨hbl, hr⟩ := HBS.out.range hm16
      have hx16 : ((xs.drop (j * 16)).take 16).length = 16 := by rw [List.length_take, HBS.out.len]; omega
      have hxa := HBS.out.all.take 16
      have HCS := Lib.hid (chunksR_succ j xs)
      have HSL := Lib.hid (slc_sixteen b o m bc hm16 hbc hbc2)
      obtain ⟨A2, hsl2, hA2⟩ := slc_from b o m bc 16 16 hbc rfl hm16
      have HSL2 := Lib.hid hsl2
      have HB2 := Lib.hid (HBS.out.cutFrom hm16 hA2)
      generalize (xs.drop (j * 16)).take 16 = x at *
      have HR := Lib.hid (rangeAt_below hr hbr hbl)
      have HO := Lib.hid hown
      have HBR := Lib.hid hbr
      have HXA := Lib.hid hxa
      clear hr hxa hown hbr hsl2 hA2
      go_wp2_with (refine slc_wp rfl _ (.tmp 12) none (some (.const (.int .i64 16))) (some (.const (.int .i64 16))) rfl _ (HSL.out wr) ?_; refine Hid.out ?_)
      refine Lib.hid ?_
      have harr := run_sixteenR b o wr
      go_wp2_with (first | (with_reducible refine wpList_load_at rfl (.tmp 16) rfl b o rfl x hx16 HR.out ?_) | (with_reducible refine wpList_one_addr rfl (.tmp 17) rfl x rfl hx16 ?_; intro w2 HK hl2 hz2; refine Hid.out ?_))
      refine Lib.hid ?_
      have hown0 := HO.out.below hl2
      have hlt2 := hown0.lt
      have hsrc := As.of_blk (B := w2.heap.size) HK hx16 HXA.out (by omega)
      have HB3 := Lib.hid (HBR.out.trans (hl2.mono hzr))
      have hz3 : w.heap.size ≤ w2.heap.size := by omega
      clear HK hl2 hz2 HO HBR harr
      go_wp2_with (at_builtin; refine wpList_append_as rfl _ _ 27 rfl w.heap.size 24 i0 Tryz.underlying27 hi hz0 hz1 hz2 A' j c' (chunksR j xs) rfl hown0 _ 1 1 w2.heap.size [x] rfl hsrc (by omega) hz3 ?_; intro A3 c3 w3 hown3 hgr hob; refine Hid.out ?_)
      refine Lib.hid ?_
      have hb3 := HB3.out.grown hgr hz3 fun k e => (hlt2 k e).1
      have hz4 := Nat.le_trans hz3 hgr.size
      rw [← HCS.out] at hown3
      have HOW := Lib.hid hown3
      have hm2 : m - 16 ≤ 160 := by omega
      have hbc3 : m - 16 ≤ bc - 16 := by omega
      have hbc4 : bc - 16 ≤ 9223372036854775807 := by omega
      have HM2 := Lib.hid (show m - 16 = (k - (j + 1)) * 16 by have := HM.out; omega)
      have HBS2 := Lib.hid (show Bs w w.heap.size A2 (m - 16) (xs.drop ((j + 1) * 16)) by
        have := HB2.out
        rw [List.drop_drop] at this
        rw [show (j + 1) * 16 = j * 16 + 16 by omega]
        exact this)
      clear hgr hob hown3 hown0 hsrc
      go_wp2_with (refine slc_wp rfl _ (.tmp 20) (some (.const (.int .i64 16))) none none rfl _ (HSL2.out w3) ?_; refine Hid.out ?_)
      refine Lib.hid ?_
      go_wp2_with fail
      exact ⟨⟨j + 1, A2, m - 16, bc - 16, A3, c3, by omega, rfl, rfl, HM2.out, hm2, hbc3, hbc4, HBS2.out, HOW.out, hb3, hz4⟩, by simp [roomR]; omega⟩
    · obtain rfl : j = k := by omega
      obtain rfl : m = 0 := by have := HM.out; omega
      have HO := Lib.hid hown
      have HBR := Lib.hid hbr
      clear hown hbr
      go_wp2_with fail
      go_ret
      exact GivesAs.of rfl HO.out HBR.out
end Go.Proofs.YtdpbhhoabnmbpaaGreat

namespace Go.Proofs.YtdpbhhoabnmbpaaGreat
open Go.RowKit
set_option linter.unusedVariables false

theorem OFrom.lessR {lo lo' n : Nat} {A : Option Addr} {os : List Od} (h : OFrom lo A n os) (hl : lo' ≤ lo) : OFrom lo' A n os :=
  ⟨fun hn => by
    obtain ⟨b, p, e, hb⟩ := h.1 hn
    exact ⟨b, p, e, by omega⟩, fun o ho => (h.2 o ho).less hl⟩
/-- a header, how long it is, and why not, are handed back -/
def GivesSr (w : World) (xs : List Int) (e : Ending) (w' : World) : Prop :=
  ∃ s : Sr, e = .returned (.tuple #[srV s, .int .i64 (lenR xs), .int .i64 (errR xs)]) ∧ s.v = parseR xs ∧ s.ok w' w'.heap.size ∧ Below w.heap.size w w' ∧ s.from_ w.heap.size
theorem GivesSr.no {w w' : World} {xs : List Int} {k : Int} (h : errR xs = k) (hk : k ≠ 0) (hB : Below w.heap.size w w') : GivesSr w xs (.returned (.tuple #[srV zeroSr, .int .i64 0, .int .i64 k])) w' :=
  ⟨zeroSr, by unfold lenR; rw [if_neg (by omega), h]; rfl, by unfold parseR; rw [if_neg (by omega)]; rfl, zeroSr_ok _ _, hB, AFrom.nil _ _, OFrom.nil _ _⟩
theorem GivesSr.yes {w w' : World} {xs : List Int} {s : Sr} {l : Int} (h : errR xs = 0) (hl : (wideR xs : Int) = l) (hv : s.v = saysR xs) (ho : s.ok w' w'.heap.size) (hB : Below w.heap.size w w') (hf : s.from_ (w.heap.size + 1)) : GivesSr w xs (.returned (.tuple #[srV s, .int .i64 l, .int .i64 0])) w' :=
  ⟨s, by unfold lenR; rw [if_pos h, hl, h], by unfold parseR; rw [if_pos h]; exact hv, ho, hB, hf.sg.less (by omega), hf.tl.lessR (by omega)⟩
theorem ret_sr {fn : Func} {p q r : Tmp} {R : Ending → World → Prop} {tmps : Array Value} {df : List Deferred} {w : World} {g : Nat} {s : Sr} {l er : Int} (hfn : fn.results = #[.cell p 30, .tmp q, .tmp r]) (hp : tmps.getD p undef = .pointer (some ⟨g, 0, none⟩)) (hq : tmps.getD q undef = .int .i64 l) (hr : tmps.getD r undef = .int .i64 er)
    (hb : BlkR w g s) (hR : R (.returned (.tuple #[srV s, .int .i64 l, .int .i64 er])) w) (hd : df = []) : bodyPost Tryz.prog fn R .ret ⟨tmps, df⟩ w :=
  bodyPost_ret (results_cell_tmp2 hfn tmps w g _ _ _ _ _ _ hp hq hr hb Tryz.underlying30 rfl (by rw [sr_size]; rfl)) hd hR
theorem partsR_len (xs : List Int) : (partsR xs).1.length ≤ (xs.take (wideR xs)).length := by
  unfold partsR parseTL
  exact Nat.le_trans (parseT_len _ _) (by rw [List.length_drop]; omega)

theorem num2_rangeR {xs : List Int} (h : AllB xs) (p : Nat) : 0 ≤ num2 xs p ∧ num2 xs p < 65536 := by
  have h1 := h.getD p
  have h2 := h.getD (p + 1)
  unfold num2
  omega
theorem tags_back (k fr : Nat) (xs : List Int) (h : fr = 8 + 16 * k) : chunksR k ((xs.take fr).drop 8) = chunksR k (xs.drop 8) := by
  rw [List.drop_take, show fr - 8 = k * 16 by omega, chunksR_take]

set_option maxRecDepth 100000 in
set_option maxHeartbeats 3200000 in
theorem srparse_any (A : Option Addr) (n c : Nat) (xs : List Int) (w : World) (hn : n ≤ 140737488355328) (hc : n ≤ c) (hc2 : c ≤ 9223372036854775807) (hb : Bs w w.heap.size A n xs) :
    Calls Tryz.prog 51 #[.slice A n c] w (GivesSr w xs) := by
  go_enter Tryz.func51, Tryz.ntmps51
  go_wp2_with ((with_reducible refine wpList_alloc_sr rfl rfl ?_); intro w1 HZ hL hz1; refine Hid.out ?_)
  refine Lib.hid ?_
  replace HZ := Lib.hid HZ
  have hb1 := hb.below' hL hL.size
  have HB0 := Lib.hid hb
  clear hz1 hb
  go_wp2_with fail
  refine (ahead10_any A n c xs w1 hn hb1).mono ?_
  rintro e w2 ⟨rfl, rfl⟩
  by_cases ha : aheadR xs = 0
  · obtain ⟨a1, a2, a3, a4, a5, a6⟩ := aheadR_zero ha
    have hlen := hb1.len
    have hwl := wideR_le hb1.all
    have HFR := Lib.hid (show fromR xs = 8 + 16 * manyR xs from rfl)
    have HER := Lib.hid (show errR xs = (partsR xs).2 by unfold errR; rw [if_pos ha])
    rw [show aheadF xs = fromR xs by unfold aheadF; rw [if_pos ha], show aheadL xs = wideR xs by unfold aheadL; rw [if_pos ha], ha]
    have HPL := Lib.hid (partsR_len xs)
    have HPD := Lib.hid (show partsR xs = parseTL ((xs.take (wideR xs)).drop (fromR xs)) from rfl)
    have HSY := Lib.hid (show saysR xs = ⟨xs.getD 0 0, xs.getD 3 0, xs.getD 5 0, num2 xs 6, chunksR (manyR xs) (xs.drop 8), (partsR xs).1⟩ from rfl)
    obtain ⟨wd, hwd⟩ : ∃ wd, wd = wideR xs := ⟨_, rfl⟩
    obtain ⟨fr, hfr⟩ : ∃ fr, fr = fromR xs := ⟨_, rfl⟩
    obtain ⟨k, hk⟩ : ∃ k, k = manyR xs := ⟨_, rfl⟩
    rw [← hwd] at a2 a5 hwl HPL HPD ⊢
    rw [← hfr] at a5 HFR HPD ⊢
    rw [← hk] at a4 a6 HFR HSY
    have HWD := Lib.hid hwd
    clear ha hwd hfr hk a6
    obtain ⟨b, o, rfl, hbl, hcc⟩ := HB0.out.mem (by omega)
    obtain ⟨A2, hs2, hA2⟩ := slc_both b o n c fr wd fr wd hc rfl rfl a5 (by omega)
    have hb2 := hb1.cut a5 (by omega : wd ≤ n) hA2
    have HB2 := Lib.hid hb2
    have HS2 := Lib.hid hs2
    have HCC := Lib.hid hcc
    have hlt0 := HZ.out.lt
    clear hb2 hs2 hA2 hcc
    go_wp2_with (refine slc_wp rfl _ (.tmp 22) (some (.tmp 23)) (some (.tmp 24)) none rfl _ (HS2.out w2) ?_; refine Hid.out ?_)
    refine Lib.hid ?_
    go_wp2_with fail
    refine (tlparse_any A2 (wd - fr) (c - fr) ((xs.take wd).drop fr) w2 (by omega) (by omega) (by omega) HB2.out).mono ?_
    rintro e w3 ⟨A3, r3, os, rfl, hv3, ho3, hB3, hf3⟩
    rw [← HPD.out] at hv3 ho3 hf3 ⊢
    replace HZ := Lib.hid (HZ.out.below hB3 HZ.out.lt)
    have HF3 := Lib.hid hf3
    have HO3 := Lib.hid ho3
    have HV3 := Lib.hid hv3
    have hlt := HZ.out.lt
    replace hL := hL.trans hB3
    obtain ⟨er, her⟩ : ∃ er, er = (partsR xs).2 := ⟨_, rfl⟩
    rw [← her] at HER ⊢
    clear ho3 hf3 hv3 HB2 HS2 her
    by_cases he : er = 0
    · subst he
      obtain ⟨tn, htn⟩ : ∃ tn, tn = (partsR xs).1.length := ⟨_, rfl⟩
      rw [← htn] at HO3 HF3 HPL ⊢
      have htn2 : tn ≤ 2048 := by
        have := HPL.out
        rw [List.length_take] at this
        omega
      clear htn
      go_wp2_with fail
      refine (u16_yes (some ⟨b, o, none⟩) n c 6 6 xs w3 (by omega) (HB0.out.below' hL hL.size) rfl (by omega)).mono ?_
      rintro e w4 ⟨rfl, kk, rfl⟩
      replace HZ : Hid (BlkR (w3.drewN kk) w.heap.size zeroSr) := HZ
      replace HO3 : Hid (Os (w3.drewN kk) (w3.drewN kk).heap.size A3 tn os) := Lib.hid (HO3.out.keep fun _ _ => rfl)
      replace hL := below_drewN hL kk
      generalize w3.drewN kk = w5 at *
      have htg := num2_rangeR HB0.out.all 6
      generalize num2 xs 6 = tg at *
      go_wp2_with fail
      refine wp_region_planS (fun y => Below w.heap.size w y) (.rd 0 (.rd 1 (.rd 2 (.rd 3 (.rd 4 (.rd 5 (.rd 6 (.rd 7 (.rd 8 (.rd 9 (.rd 10 (.rd 11 (.rd 12 (.rd 13 (.rd 14 (.rd 15 (.rd 17 (.rd 19 (.act 16 (.rd 18 (.act 20 (.rd 21 (.rd 22 (.done))))))))))))))))))))))))
        (by kernel_rfl) (by kernel_rfl) (fun _ _ d _ _ h => by cases d <;> exact h) (by kernel_rfl) (Below.drew hL) ?_
      replace HZ : Hid (BlkR w5.drew w.heap.size zeroSr) := HZ
      replace HO3 : Hid (Os w5.drew w5.drew.heap.size A3 tn os) := Lib.hid (HO3.out.keep fun _ _ => rfl)
      replace hL := Below.drew hL
      generalize w5.drew = w6 at *
      have c0 : w.cell? ⟨b, o, none⟩ = some (.int .u8 (xs.getD 0 0)) := HCC.out 0 (by omega)
      have c3 := HCC.out 3 (by omega)
      have c5 := HCC.out 5 (by omega)
      obtain ⟨y0, y0'⟩ := HB0.out.nonneg 0
      obtain ⟨y3, y3'⟩ := HB0.out.nonneg 3
      obtain ⟨y5, y5'⟩ := HB0.out.nonneg 5
      generalize xs.getD 0 0 = x0 at *
      generalize xs.getD 3 0 = x3 at *
      generalize xs.getD 5 0 = x5 at *
      have hw0 : IntKind.i64.wrap x0 = x0 := wraps_i64 _ y0 (by omega)
      have hw3 : IntKind.i64.wrap x3 = x3 := wraps_i64 _ y3 (by omega)
      have hw5 : IntKind.i64.wrap x5 = x5 := wraps_i64 _ y5 (by omega)
      have n0 : 0 < n := by omega
      have n3 : (3 : Int) < n := by omega
      have n5 : (5 : Int) < n := by omega
      have hfr := HFR.out
      obtain ⟨A4, hs4, hA4⟩ := slc_both b o n c 8 fr 8 fr hc rfl rfl (by omega) (by omega)
      have HB4 := Lib.hid (HB0.out.cut (by omega : 8 ≤ fr) (by omega : fr ≤ n) hA4)
      have HS4 := Lib.hid hs4
      clear hs4 hA4 hfr
      iterate 18 (refine walkS_read (v := _) rfl (by rfl) (by intro y hy; have e0 := (hy.cell (p := ⟨b, o, none⟩) hbl).trans c0; have e3 := (hy.cell (p := ⟨b, o + 3, none⟩) hbl).trans c3; have e5 := (hy.cell (p := ⟨b, o + 5, none⟩) hbl).trans c5; first | exact slc_exec (HS4.out y) | (go_simp; try rfl)) ?_; simp only [Act.put, List.setIfInBounds_toArray, List.set_cons_zero, List.set_cons_succ])
      clear c0 c3 c5 n0 n3 n5 hw0 hw3 hw5
      have HTB := Lib.hid (tags_back k fr xs HFR.out)
      refine walkS_act rfl (by rfl) (fun K hK => ?_)
      go_simp
      refine (segments_any A4 (fr - 8) (c - 8) k ((xs.take fr).drop 8) w6 a4.2 (by have := HFR.out; omega) (by omega) (by omega) (HB4.out.below' hL hL.size)).mono ?_
      rintro e w7 ⟨A5, q5, rfl, hown5, hB7⟩
      go_simp
      rw [HTB.out] at hown5 ⊢
      have hcl := chunksR_len k (xs.drop 8)
      rw [hcl] at hown5 ⊢
      have hL7 : Below w.heap.size w w7 := hL.trans (hB7.mono hL.size)
      refine hK _ _ hL7 ?_
      clear hK K
      have hz6 : w.heap.size < w6.heap.size := HZ.out.lt
      have HF5 := Lib.hid (hown5.from_)
      have HA5 := Lib.hid (hown5.lies (Nat.le_refl _))
      replace HZ := Lib.hid (HZ.out.below hB7 HZ.out.lt)
      replace HO3 := Lib.hid (HO3.out.below' hB7 hB7.size)
      obtain ⟨cs, hcs⟩ : ∃ cs, cs = chunksR k (xs.drop 8) := ⟨_, rfl⟩
      rw [← hcs] at HA5 HSY
      clear hown5 hcl hL hB7 hcs HTB HB4 HS4
      refine walkS_read (v := _) rfl (by rfl) (by intro y hy; go_simp; try rfl) ?_
      simp only [Act.put, List.setIfInBounds_toArray, List.set_cons_zero, List.set_cons_succ]
      obtain ⟨s, hs⟩ : ∃ s : Sr, s = ⟨x0, x3, x5, tg, A5, k, q5, cs, A3, tn, r3, os⟩ := ⟨_, rfl⟩
      have HSV := Lib.hid (show Value.agg (srC s).toArray = .agg #[.int .i64 x0, .int .i64 x3, .int .i64 x5, .int .i64 tg, .slice A5 k q5, .slice A3 tn r3] by rw [hs]; rfl)
      have HVV := Lib.hid (show s.v = saysR xs by rw [hs, HSY.out, ← HV3.out]; rfl)
      have HOK := Lib.hid (show s.ok w7 w7.heap.size by
        rw [hs]
        exact ⟨by unfold i64ok; show _ ∧ _; dsimp only; omega, by unfold i64ok; dsimp only; omega, by unfold i64ok; dsimp only; omega, by unfold i64ok; dsimp only; omega, by dsimp only; omega, HA5.out, by dsimp only; omega, HO3.out⟩)
      have HFS := Lib.hid (show s.from_ (w.heap.size + 1) by
        rw [hs]
        exact ⟨HF5.out.less (by omega), HF3.out.lessR (by omega)⟩)
      clear hs HA5 HO3 HF5 HF3 HV3
      refine walkS_act rfl (by rfl) (fun K hK => ?_)
      refine wp_store_row 30 (.tmp 2) (.tmp 56) rfl w.heap.size (srC s).toArray rfl HSV.out.symm 30 _ HZ.out (by rw [sr_size]; rfl) rfl (srC_one s) ?_
      refine hK _ _ (hL7.trans (low_setRow _ _ _ (Nat.le_refl _))) ?_
      clear hK K
      have HG : Hid (BlkR (w7.setRow w.heap.size (srC s).toArray) w.heap.size s) := Lib.hid (BlkV.setRow HZ.out _)
      have hL8 := hL7.trans (low_setRow w7 w.heap.size (srC s).toArray (Nat.le_refl _))
      have HOK8 := Lib.hid ((HOK.out.upper (w' := w7.setRow w.heap.size (srC s).toArray) HFS.out (fun p hp _ => World.cell?_of_block (by
        have : p.block ≠ w.heap.size := by omega
        simp [World.setRow, Array.getElem?_modify, Ne.symm this]))).more (by simp : w7.heap.size ≤ (w7.setRow w.heap.size (srC s).toArray).heap.size))
      clear HZ HOK hL7 HSV
      generalize w7.setRow w.heap.size (srC s).toArray = w8 at *
      simp only [Act.put]
      iterate 2 (refine walkS_read (v := _) rfl (by rfl) (by intro y hy; go_simp; try rfl) ?_; simp only [Act.put, List.setIfInBounds_toArray, List.set_cons_zero, List.set_cons_succ])
      unfold walkS
      go_wp2
      exact ret_sr Tryz.results51 rfl rfl rfl HG.out (GivesSr.yes HER.out (by rw [HWD.out]) HVV.out HOK8.out hL8 HFS.out) rfl
    · have heb : (er != 0) = true := by simpa using he
      go_wp2_with (refine wpList_store_sr rfl (.tmp 2) (.tmp 31) rfl w.heap.size rfl zeroSr rfl zeroSr HZ.out ?_; intro w4 HG hb4 ho4 hz4; refine Hid.out ?_)
      refine Lib.hid ?_
      replace HG := Lib.hid HG
      go_wp2_with fail
      exact ret_sr Tryz.results51 rfl rfl rfl HG.out (GivesSr.no HER.out he (Below.trans hL hb4)) rfl
  · have HE := Lib.hid (show errR xs = aheadR xs by unfold errR; rw [if_neg ha])
    rw [(aheadFL_err rfl ha).1, (aheadFL_err rfl ha).2]
    obtain ⟨x, hx⟩ : ∃ x, x = aheadR xs := ⟨_, rfl⟩
    rw [← hx] at ha HE ⊢
    have hxb : (x != 0) = true := by simpa using ha
    clear hx
    go_wp2_with (refine wpList_store_sr rfl (.tmp 2) (.tmp 19) rfl w.heap.size rfl zeroSr rfl zeroSr HZ.out ?_; intro w4 HG hb4 ho4 hz4; refine Hid.out ?_)
    refine Lib.hid ?_
    replace HG := Lib.hid HG
    go_wp2_with fail
    exact ret_sr Tryz.results51 rfl rfl rfl HG.out (GivesSr.no HE.out ha (Below.trans hL hb4)) rfl
end Go.Proofs.YtdpbhhoabnmbpaaGreat

namespace Go.Proofs.YtdpbhhoabnmbpaaGreat
open Go.RowKit
set_option linter.unusedVariables false

end Go.Proofs.YtdpbhhoabnmbpaaGreat

namespace Go.Proofs.YtdpbhhoabnmbpaaGreat
open Go.RowKit
set_option linter.unusedVariables false

end Go.Proofs.YtdpbhhoabnmbpaaGreat

namespace Go.Proofs.YtdpbhhoabnmbpaaGreat
open Go.RowKit
set_option linter.unusedVariables false

end Go.Proofs.YtdpbhhoabnmbpaaGreat
