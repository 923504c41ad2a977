/- Stage 23: the invariant and the walk of WheelPlays, given the program's own wheel (wip/tools/genwhe.py prints it). Conditions: each argument lies as the form says. -/
import Derived.Test.YthbboiolhejmmaaWhD
import Derived.Test.YthbboiolhejmmaaTr3
set_option maxRecDepth 100000
namespace Go.Proofs.Ythbboiolhejmmaa
open Go.RowKit
set_option linter.unusedVariables false

/-- the program's wheel is at tick now with the timers s, the document's list l lies outside of it -/
def WhInv (O : WhObj) (base top : Nat) (w : World) (p : Value) (now : Int) (s : List (Int × Int)) (A : Option Addr) (l : List (Int × Int)) : Prop :=
  ∃ F, O.R w p F now s ∧ (∀ k, F k → base ≤ k) ∧ Es prE w w.heap.size A l.length l ∧ offA F A l.length ∧ (∀ k, F k → k < top)
section
variable {O : WhObj} {base top : Nat} {w w' : World} {p : Value} {now : Int} {A : Option Addr} {l s : List (Int × Int)}
theorem WhInv.low (h : WhInv O base top w p now s A l) (hl : Low w w') : WhInv O base top w' p now s A l := by
  obtain ⟨F, h1, h2, h3, h4, h5⟩ := h
  exact ⟨F, O.low h1 hl, h2, h3.low hl, h4, h5⟩
theorem WhInv.up (h : WhInv O base top w p now s A l) : WhInv O base w.heap.size w p now s A l := by
  obtain ⟨F, h1, h2, h3, h4, h5⟩ := h
  exact ⟨F, h1, h2, h3, h4, O.under h1⟩
theorem WhInv.lies (h : WhInv O base top w p now s A l) : Es prE w w.heap.size A l.length l := by
  obtain ⟨F, h1, h2, h3, h4, h5⟩ := h
  exact h3
theorem WhInv.right (h : WhInv O base top w p now s A l) : 0 ≤ now ∧ RightW now s := by
  obtain ⟨F, h1, h2, h3, h4, h5⟩ := h
  exact O.right h1
theorem WhInv.set {id at_ : Int} (h : WhInv O base top w p now s A l) (hb : base ≤ w.heap.size) (hn : now ≤ 1000) (hid : i64ok id) (hat : i64ok at_) :
    Calls Try.prog 8 #[p, .int .i64 id, .int .i64 at_] w fun e w' => e = .returned (.bool (mayW id)) ∧ WhInv O base w'.heap.size w' p now (toW s now id at_) A l ∧ Below base w w' ∧ (∀ j, top ≤ j → j < w.heap.size → w'.heap[j]? = w.heap[j]?) := by
  obtain ⟨F, h1, h2, h3, h4, h5⟩ := h
  refine (O.set id at_ h1 hn hid hat).mono ?_
  rintro e w' ⟨rfl, F', hR, hG, hO⟩
  exact ⟨rfl, ⟨F', hR, hG.from_ h2 hb, h3.out h4 hO, h4.growE hG h3, O.under hR⟩, hO.below h2 hb, fun j h0 h1 => hO.block j h1 fun hf => by have := h5 j hf; omega⟩
theorem WhInv.unset {id : Int} (h : WhInv O base top w p now s A l) (hb : base ≤ w.heap.size) (hid : i64ok id) :
    Calls Try.prog 10 #[p, .int .i64 id] w fun e w' => e = .returned (.bool (hasS s id)) ∧ WhInv O base w'.heap.size w' p now (outS s id) A l ∧ Below base w w' ∧ (∀ j, top ≤ j → j < w.heap.size → w'.heap[j]? = w.heap[j]?) := by
  obtain ⟨F, h1, h2, h3, h4, h5⟩ := h
  refine (O.unset id h1 hid).mono ?_
  rintro e w' ⟨rfl, F', hR, hG, hO⟩
  exact ⟨rfl, ⟨F', hR, hG.from_ h2 hb, h3.out h4 hO, h4.growE hG h3, O.under hR⟩, hO.below h2 hb, fun j h0 h1 => hO.block j h1 fun hf => by have := h5 j hf; omega⟩
theorem WhInv.advance (h : WhInv O base top w p now s A l) (hb : base ≤ w.heap.size) (hn : now ≤ 1000) :
    Calls Try.prog 14 #[p] w fun e w' => ∃ B c, e = .returned (.slice B (dueW s (now + 1)).length c) ∧ Ns w' w'.heap.size B (dueW s (now + 1)).length (dueW s (now + 1)) ∧ WhInv O base w'.heap.size w' p (now + 1) (restW s (now + 1)) A l ∧ Below base w w' ∧ (∀ j, top ≤ j → j < w.heap.size → w'.heap[j]? = w.heap[j]?) := by
  obtain ⟨F, h1, h2, h3, h4, h5⟩ := h
  refine (O.advance h1 hn).mono ?_
  rintro e w' ⟨B, c, rfl, hn, F', hR, hG, hO⟩
  exact ⟨B, c, rfl, hn, ⟨F', hR, hG.from_ h2 hb, h3.out h4 hO, h4.growE hG h3, O.under hR⟩, hO.below h2 hb, fun j h0 h1 => hO.block j h1 fun hf => by have := h5 j hf; omega⟩
theorem WhInv.when {id : Int} (h : WhInv O base top w p now s A l) (hid : i64ok id) : Calls Try.prog 7 #[p, .int .i64 id] w fun e w' => ∃ x : Int, e = .returned (.tuple #[.int .i64 x, .bool (hasS s id)]) ∧ (hasS s id = true → (id, x) ∈ s) ∧ (hasS s id = false → x = 0) ∧ Low w w' := by
  obtain ⟨F, h1, h2, h3, h4, h5⟩ := h
  exact O.when id h1 hid
theorem WhInv.now_ (h : WhInv O base top w p now s A l) : Calls Try.prog 15 #[p] w fun e w' => e = .returned (.int .i64 now) ∧ Low w w' := by
  obtain ⟨F, h1, h2, h3, h4, h5⟩ := h
  exact O.now_ h1
theorem WhInv.len (h : WhInv O base top w p now s A l) : Calls Try.prog 16 #[p] w fun e w' => e = .returned (.int .i64 (s.length : Nat)) ∧ Low w w' := by
  obtain ⟨F, h1, h2, h3, h4, h5⟩ := h
  exact O.len h1
theorem WhInv.take {t : TypeId} {A' : Option Addr} {c' : Nat} {l' : List (Int × Int)} (h : WhInv O base top w p now s A l) (ho : OwnE prE t w' w.heap.size A' l'.length c' l') (hl : Low w w') : WhInv O base top w' p now s A' l' := by
  obtain ⟨F, h1, h2, h3, h4, h5⟩ := h
  exact ⟨F, O.low h1 hl, h2, ho.lies (Nat.le_refl _), offA.fresh (fun k hk => O.under h1 k hk) ho.from_, h5⟩
end
theorem hasS_take (l : List (Int × Int)) (id : Int) (i : Nat) (h : i < l.length) : hasS (l.take (i + 1)) id = (hasS (l.take i) id || (l.getD i (0, 0)).1 == id) := by
  have e : l.getD i (0, 0) = l[i] := by simp [List.getD, h]
  unfold hasS
  rw [List.take_succ_eq_append_getElem h, List.any_append, e]
  simp

set_option maxHeartbeats 6400000 in
set_option maxRecDepth 100000 in
theorem whp_walk (O : WhObj) (A : Option Addr) (m c : Nat) (ops : List (Int × Int × Int)) (w : World) (hm : m ≤ 140737488355328) (ha : Es tr3E w w.heap.size A m ops) :
    Calls Try.prog 3 #[.slice A m c] w fun e w' => e = .returned (.bool true) ∧ Low w w' := by
  have HLV := Lib.hid fun u => whlives_any O u
  have HA := Lib.hid ha
  clear ha
  go_enter Try.func3, Try.ntmps3
  go_wp2_with fail
  refine (O.new w).mono ?_
  rintro e w1 ⟨g, F0, rfl, hR, hF, hl⟩
  have HI := Lib.hid (show WhInv O w.heap.size w1.heap.size w1 (.pointer (some ⟨g, 0, none⟩)) 0 [] none [] from ⟨F0, hR, hF, Es.nil _ _ _, offA.nil _ _, O.under hR⟩)
  have HOP := Lib.hid (HA.out.below hl)
  have HL := Lib.hid (show Below w.heap.size w w1 from hl)
  clear hR hF hl HA
  go_wp2_with fail
  go_loopw [4, 5, 6] (fun v4 v5 v6 wr => ∃ (i : Nat) (A' : Option Addr) (c' : Nat) (l : List (Int × Int)) (now : Int), i ≤ m ∧ i ≤ 200 ∧ v6 = .int .i64 i ∧ v4 = .slice A' l.length c' ∧ v5 = .int .i64 now ∧ now ≤ i ∧ Hid (l.length ≤ i) ∧ Hid (WhInv O w.heap.size wr.heap.size wr (.pointer (some ⟨g, 0, none⟩)) now l A' l) ∧ Hid (Es tr3E wr w.heap.size A m ops) ∧ Hid (Below w.heap.size w wr)) (fun _ _ v _ => 200 - (intOf v).toNat)
  case atStart => exact ⟨0, none, 0, [], 0, by omega, by omega, rfl, rfl, rfl, by omega, Lib.hid (Nat.le_refl _), HI, HOP, HL⟩
  case round =>
    clear HI HOP HL
    obtain ⟨i, A', c', l, now, hi, hi200, rfl, rfl, rfl, hni, HLL, HI, HOP, HL⟩ := hrel
    by_cases hlt : i < m ∧ i < 200
    · have hlt1 : (i : Int) < m := by omega
      have hlt2 : (i : Int) < 200 := by omega
      have hll := HLL.out
      have hn0 := HI.out.right.1
      obtain ⟨ob, oo, rfl, hob, c0, c1, c2, k0, k1, k2⟩ := tr3_at HOP.out hlt.1
      generalize (ops.getD i (0, 0, 0)).1 = K at *
      generalize (ops.getD i (0, 0, 0)).2.1 = id at *
      generalize (ops.getD i (0, 0, 0)).2.2 = tk at *
      have hlA := Low.alloc wr (.cells #[.int .i64 K, .int .i64 id, .int .i64 tk] 27)
      have hbA : BlkV (wr.alloc (.cells #[.int .i64 K, .int .i64 id, .int .i64 tk] 27)) 27 wr.heap.size [.int .i64 K, .int .i64 id, .int .i64 tk] := BlkV.new wr 27 _
      have HID := Lib.hid k1
      have HAT := Lib.hid k2
      replace HI := Lib.hid (HI.out.low hlA)
      replace HOP := Lib.hid (HOP.out.below (hlA.mono HL.out.size))
      replace HL := Lib.hid (HL.out.trans (hlA.mono HL.out.size))
      clear hlA HLL k0 k1 k2
      go_wp2_with fail
      obtain ⟨g1, hg1⟩ : ∃ g1, g1 = wr.heap.size := ⟨_, rfl⟩
      rw [← hg1] at hbA HI ⊢
      generalize wr.alloc (.cells #[.int .i64 K, .int .i64 id, .int .i64 tk] 27) = wa at *
      clear hg1 c0 c1 c2
      go_loopw [8, 9, 10] (fun v8 v9 v10 wr2 => ∃ (t : Nat) (x : Int) (b : Bool), t ≤ l.length ∧ v10 = .int .i64 t ∧ v8 = .int .i64 x ∧ v9 = .bool b ∧ Hid (b = hasS (l.take t) id) ∧ Hid (b = true → (id, x) ∈ l) ∧ Hid (b = false → x = 0) ∧ Hid (Low wa wr2)) (fun _ _ v _ => l.length - (intOf v).toNat)
      case atStart => exact ⟨0, 0, false, Nat.zero_le _, rfl, rfl, rfl, Lib.hid (by simp [hasS]), Lib.hid (fun h => by cases h), Lib.hid (fun _ => rfl), Lib.hid (Low.refl _)⟩
      case round =>
        obtain ⟨t, x, b, ht, rfl, rfl, rfl, HBT, HB1, HB0, hLW⟩ := hrel
        by_cases htl : t < l.length
        · have htl2 : (t : Int) < l.length := by omega
          obtain ⟨gb, go, rfl, hgb, _⟩ := HI.out.lies.mem (by omega)
          obtain ⟨p0, p1⟩ := pr_cells HI.out.lies htl
          have q0 := (hLW.out.cell (p := ⟨gb, go + t * 2, none⟩) hgb).trans p0
          have q1 := (hLW.out.cell (p := ⟨gb, go + t * 2 + 1, none⟩) hgb).trans p1
          have q2 : wr.cell? ⟨g1, 1, none⟩ = some (.int .i64 id) := (hLW.out.cell (p := ⟨g1, 1, none⟩) hbA.lt).trans (by rw [BlkV.cell hbA 1]; rfl)
          have HTK := Lib.hid (hasS_take l id t htl)
          rw [← HBT.out] at HTK
          have HMM := Lib.hid (show ((l.getD t (0, 0)).1, (l.getD t (0, 0)).2) ∈ l by rw [getD_pr l t htl]; exact List.getElem_mem htl)
          have HDW := Lib.hid (show ∀ q, Low wa (wr.drewN q) ∧ (wr.drewN q).cell? ⟨gb, go + t * 2 + 1, none⟩ = some (.int .i64 (l.getD t (0, 0)).2) from fun q => ⟨below_drewN hLW.out q, q1⟩)
          clear p0 p1 q1 hgb HBT hLW
          generalize (l.getD t (0, 0)).1 = y at *
          generalize (l.getD t (0, 0)).2 = z at *
          by_cases hy : y = id
          · subst hy
            have hyy : (y == y) = true := by simp
            have HR1 := Lib.hid (show true = hasS (l.take (t + 1)) y by rw [HTK.out]; simp)
            go_wp2_with fail
            go_quiet (fail)
            obtain ⟨hl5, q1⟩ := HDW.out nq
            generalize wr.drewN nq = wz at *
            have HL5 := Lib.hid hl5
            clear hl5 q0 q2 HDW
            go_wp2_with fail
            go_roundw
            case rel => exact ⟨t + 1, z, true, by omega, by go_num, rfl, rfl, HR1, Lib.hid (fun _ => HMM.out), Lib.hid (fun h => by cases h), HL5⟩
            case measure => simp [intOf]; omega
          · have hyy : (y == id) = false := by simpa using hy
            have HR1 := Lib.hid (show b = hasS (l.take (t + 1)) id by rw [HTK.out, hyy]; simp)
            replace hy := Lib.hid hy
            go_wp2_with fail
            go_quiet (fail)
            obtain ⟨hl5, q1⟩ := HDW.out nq
            generalize wr.drewN nq = wz at *
            have HL5 := Lib.hid hl5
            clear hl5 q0 q2 HDW
            go_wp2_with fail
            go_roundw
            case rel => exact ⟨t + 1, x, b, by omega, by go_num, rfl, rfl, HR1, HB1, HB0, HL5⟩
            case measure => simp [intOf]; omega
        · obtain rfl : t = l.length := by omega
          rw [List.take_of_length_le (Nat.le_refl _)] at HBT
          have htl2 : ¬ (l.length : Int) < l.length := by omega
          replace HI := Lib.hid (HI.out.low hLW.out)
          replace hbA := hbA.below hLW.out hbA.lt
          replace HOP := Lib.hid (HOP.out.below (hLW.out.mono HL.out.size))
          replace HL := Lib.hid (HL.out.trans (hLW.out.mono HL.out.size))
          have q2 : wr.cell? ⟨g1, 1, none⟩ = some (.int .i64 id) := by rw [BlkV.cell hbA 1]; rfl
          clear hLW
          go_wp2_with fail
          refine (HI.out.when HID.out).mono ?_
          rintro e w6 ⟨x2, rfl, h1, h0, hl⟩
          rw [← HBT.out] at h1 h0 ⊢
          obtain rfl : x2 = x := by
            cases hb : b with
            | true => exact one_of_keys HI.out.right.2.keys (h1 hb) (HB1.out hb)
            | false => rw [h0 hb, HB0.out hb]
          have hxx : (x2 != x2) = false := by simp
          have hbb : (b != b) = false := by simp
          have HBE := Lib.hid HBT.out
          replace hbA := hbA.below hl hbA.lt
          have q0 : w6.cell? ⟨g1, 0, none⟩ = some (.int .i64 K) := by rw [BlkV.cell hbA 0]; rfl
          replace q2 : w6.cell? ⟨g1, 1, none⟩ = some (.int .i64 id) := by rw [BlkV.cell hbA 1]; rfl
          have q3 : w6.cell? ⟨g1, 2, none⟩ = some (.int .i64 tk) := by rw [BlkV.cell hbA 2]; rfl
          replace HI := Lib.hid (HI.out.low hl)
          replace HOP := Lib.hid (HOP.out.below (hl.mono HL.out.size))
          replace HL := Lib.hid (HL.out.trans (hl.mono HL.out.size))
          clear hl
          clear h1 h0 HB1 HB0 HBT
          by_cases hk : 0 ≤ K.tmod 6 ∧ K.tmod 6 ≤ 2
          · have hk0 : 0 ≤ K.tmod 6 := hk.1
            have hk1 : K.tmod 6 ≤ 2 := hk.2
            by_cases hx0 : 0 ≤ id
            · by_cases hxn : id < 256
              · have HMY := Lib.hid (show mayW id = true by unfold mayW; rw [decide_eq_true hx0, decide_eq_true hxn]; rfl)
                have HTO := Lib.hid (show toW l now id tk = setW l now id tk by unfold toW; rw [if_pos HMY.out])
                go_wp2_with fail
                refine (HI.out.set HL.out.size (by omega) HID.out HAT.out).mono ?_
                rintro e w8 ⟨rfl, hi8, hb8, hk8⟩
                rw [HMY.out]
                have hbo := (hk8 g1 (Nat.le_refl _) hbA.lt).trans hbA
                have d1 : w8.cell? ⟨g1, 1, none⟩ = some (.int .i64 id) := by rw [BlkV.cell hbo 1]; rfl
                have d2 : w8.cell? ⟨g1, 2, none⟩ = some (.int .i64 tk) := by rw [BlkV.cell hbo 2]; rfl
                replace HOP := Lib.hid (HOP.out.below hb8)
                replace HL := Lib.hid (HL.out.trans hb8)
                rw [HTO.out] at hi8
                clear hk8 hbo
                have HI8 := Lib.hid hi8
                clear hi8 hb8 HI
                go_wp2_with fail
                refine (rsetW_any A' l.length c' l now id tk w8 (by omega) ⟨by omega, by omega⟩ HID.out HAT.out HI8.out.lies).mono ?_
                rintro e w9 ⟨A9, c9, rfl, ho9, hl9⟩
                have HI := Lib.hid (HI8.out.take ho9 hl9)
                replace HOP := Lib.hid (HOP.out.below (hl9.mono HL.out.size))
                replace HL := Lib.hid (HL.out.trans (hl9.mono HL.out.size))
                have hsl : (setW l now id tk).length ≤ i + 1 := by have := setW_len l now id tk; omega
                clear ho9 hl9 HI8 HTO d1 d2
                generalize setW l now id tk = s at *

                have hss : ((s.length : Int) != (s.length : Int)) = false := by simp
                have hnn : ((now : Int) != (now : Int)) = false := by simp
                have HSL := Lib.hid hsl
                clear hsl
                go_wp2_with fail
                refine (HI.out.now_).mono ?_
                rintro e w10 ⟨rfl, hl⟩
                replace HI := Lib.hid (HI.out.low hl)
                replace HOP := Lib.hid (HOP.out.below (hl.mono HL.out.size))
                replace HL := Lib.hid (HL.out.trans (hl.mono HL.out.size))
                clear hl
                go_wp2_with fail
                refine (HI.out.len).mono ?_
                rintro e w11 ⟨rfl, hl⟩
                replace HI := Lib.hid (HI.out.low hl)
                replace HOP := Lib.hid (HOP.out.below (hl.mono HL.out.size))
                replace HL := Lib.hid (HL.out.trans (hl.mono HL.out.size))
                clear hl
                clear hss hnn
                go_wp2_with fail
                go_roundw
                case rel => exact ⟨i + 1, A9, c9, s, now, by omega, by omega, by go_num, rfl, rfl, by omega, HSL, Lib.hid HI.out.up, HOP, HL⟩
                case measure => simp [intOf]; omega
              · have HMY := Lib.hid (show mayW id = false by unfold mayW; rw [decide_eq_true hx0, decide_eq_false hxn]; rfl)
                have HTO := Lib.hid (show toW l now id tk = l by unfold toW; rw [HMY.out, if_neg (by simp)])
                have hxn2 : 256 ≤ id := by omega
                go_wp2_with fail
                refine (HI.out.set HL.out.size (by omega) HID.out HAT.out).mono ?_
                rintro e w8 ⟨rfl, hi8, hb8, hk8⟩
                rw [HMY.out]
                have hbo := (hk8 g1 (Nat.le_refl _) hbA.lt).trans hbA
                have d1 : w8.cell? ⟨g1, 1, none⟩ = some (.int .i64 id) := by rw [BlkV.cell hbo 1]; rfl
                have d2 : w8.cell? ⟨g1, 2, none⟩ = some (.int .i64 tk) := by rw [BlkV.cell hbo 2]; rfl
                replace HOP := Lib.hid (HOP.out.below hb8)
                replace HL := Lib.hid (HL.out.trans hb8)
                rw [HTO.out] at hi8
                clear hk8 hbo
                replace HI := Lib.hid hi8
                clear hi8 hb8 HTO d1 d2
                obtain ⟨s, hs⟩ : ∃ s, s = l := ⟨_, rfl⟩
                obtain ⟨A9, hA9⟩ : ∃ A9, A9 = A' := ⟨_, rfl⟩
                obtain ⟨c9, hc9⟩ : ∃ c9, c9 = c' := ⟨_, rfl⟩
                rw [← hs, ← hA9] at HI
                rw [← hs, ← hA9, ← hc9]
                have hsl : s.length ≤ i + 1 := by rw [hs]; omega
                clear hs hA9 hc9

                have hss : ((s.length : Int) != (s.length : Int)) = false := by simp
                have hnn : ((now : Int) != (now : Int)) = false := by simp
                have HSL := Lib.hid hsl
                clear hsl
                go_wp2_with fail
                refine (HI.out.now_).mono ?_
                rintro e w10 ⟨rfl, hl⟩
                replace HI := Lib.hid (HI.out.low hl)
                replace HOP := Lib.hid (HOP.out.below (hl.mono HL.out.size))
                replace HL := Lib.hid (HL.out.trans (hl.mono HL.out.size))
                clear hl
                go_wp2_with fail
                refine (HI.out.len).mono ?_
                rintro e w11 ⟨rfl, hl⟩
                replace HI := Lib.hid (HI.out.low hl)
                replace HOP := Lib.hid (HOP.out.below (hl.mono HL.out.size))
                replace HL := Lib.hid (HL.out.trans (hl.mono HL.out.size))
                clear hl
                clear hss hnn
                go_wp2_with fail
                go_roundw
                case rel => exact ⟨i + 1, A9, c9, s, now, by omega, by omega, by go_num, rfl, rfl, by omega, HSL, Lib.hid HI.out.up, HOP, HL⟩
                case measure => simp [intOf]; omega
            · have HMY := Lib.hid (show mayW id = false by unfold mayW; rw [decide_eq_false hx0]; rfl)
              have HTO := Lib.hid (show toW l now id tk = l by unfold toW; rw [HMY.out, if_neg (by simp)])
              have hx1 : id < 0 := by omega
              go_wp2_with fail
              refine (HI.out.set HL.out.size (by omega) HID.out HAT.out).mono ?_
              rintro e w8 ⟨rfl, hi8, hb8, hk8⟩
              rw [HMY.out]
              have hbo := (hk8 g1 (Nat.le_refl _) hbA.lt).trans hbA
              have d1 : w8.cell? ⟨g1, 1, none⟩ = some (.int .i64 id) := by rw [BlkV.cell hbo 1]; rfl
              have d2 : w8.cell? ⟨g1, 2, none⟩ = some (.int .i64 tk) := by rw [BlkV.cell hbo 2]; rfl
              replace HOP := Lib.hid (HOP.out.below hb8)
              replace HL := Lib.hid (HL.out.trans hb8)
              rw [HTO.out] at hi8
              clear hk8 hbo
              replace HI := Lib.hid hi8
              clear hi8 hb8 HTO d1 d2
              obtain ⟨s, hs⟩ : ∃ s, s = l := ⟨_, rfl⟩
              obtain ⟨A9, hA9⟩ : ∃ A9, A9 = A' := ⟨_, rfl⟩
              obtain ⟨c9, hc9⟩ : ∃ c9, c9 = c' := ⟨_, rfl⟩
              rw [← hs, ← hA9] at HI
              rw [← hs, ← hA9, ← hc9]
              have hsl : s.length ≤ i + 1 := by rw [hs]; omega
              clear hs hA9 hc9

              have hss : ((s.length : Int) != (s.length : Int)) = false := by simp
              have hnn : ((now : Int) != (now : Int)) = false := by simp
              have HSL := Lib.hid hsl
              clear hsl
              go_wp2_with fail
              refine (HI.out.now_).mono ?_
              rintro e w10 ⟨rfl, hl⟩
              replace HI := Lib.hid (HI.out.low hl)
              replace HOP := Lib.hid (HOP.out.below (hl.mono HL.out.size))
              replace HL := Lib.hid (HL.out.trans (hl.mono HL.out.size))
              clear hl
              go_wp2_with fail
              refine (HI.out.len).mono ?_
              rintro e w11 ⟨rfl, hl⟩
              replace HI := Lib.hid (HI.out.low hl)
              replace HOP := Lib.hid (HOP.out.below (hl.mono HL.out.size))
              replace HL := Lib.hid (HL.out.trans (hl.mono HL.out.size))
              clear hl
              clear hss hnn
              go_wp2_with fail
              go_roundw
              case rel => exact ⟨i + 1, A9, c9, s, now, by omega, by omega, by go_num, rfl, rfl, by omega, HSL, Lib.hid HI.out.up, HOP, HL⟩
              case measure => simp [intOf]; omega
          · by_cases hk3 : K.tmod 6 = 3
            · clear hk
              go_wp2_with fail
              refine (HI.out.unset HL.out.size HID.out).mono ?_
              rintro e w8 ⟨rfl, hi8, hb8, hk8⟩
              rw [← HBE.out]
              have hbo := (hk8 g1 (Nat.le_refl _) hbA.lt).trans hbA
              have d1 : w8.cell? ⟨g1, 1, none⟩ = some (.int .i64 id) := by rw [BlkV.cell hbo 1]; rfl
              replace HOP := Lib.hid (HOP.out.below hb8)
              replace HL := Lib.hid (HL.out.trans hb8)
              have HI8 := Lib.hid hi8
              clear hi8 hb8 HI hk8 hbo
              go_wp2_with fail
              refine (rwithout_any A' l.length c' l id w8 (by omega) HI8.out.lies).mono ?_
              rintro e w9 ⟨A9, c9, rfl, ho9, hl9⟩
              have HI := Lib.hid (HI8.out.take ho9 hl9)
              replace HOP := Lib.hid (HOP.out.below (hl9.mono HL.out.size))
              replace HL := Lib.hid (HL.out.trans (hl9.mono HL.out.size))
              have hsl : (outS l id).length ≤ i + 1 := by have := outS_len2 l id; omega
              clear ho9 hl9 HI8 d1 HBE
              generalize outS l id = s at *

              have hss : ((s.length : Int) != (s.length : Int)) = false := by simp
              have hnn : ((now : Int) != (now : Int)) = false := by simp
              have HSL := Lib.hid hsl
              clear hsl
              go_wp2_with fail
              refine (HI.out.now_).mono ?_
              rintro e w10 ⟨rfl, hl⟩
              replace HI := Lib.hid (HI.out.low hl)
              replace HOP := Lib.hid (HOP.out.below (hl.mono HL.out.size))
              replace HL := Lib.hid (HL.out.trans (hl.mono HL.out.size))
              clear hl
              go_wp2_with fail
              refine (HI.out.len).mono ?_
              rintro e w11 ⟨rfl, hl⟩
              replace HI := Lib.hid (HI.out.low hl)
              replace HOP := Lib.hid (HOP.out.below (hl.mono HL.out.size))
              replace HL := Lib.hid (HL.out.trans (hl.mono HL.out.size))
              clear hl
              clear hss hnn
              go_wp2_with fail
              go_roundw
              case rel => exact ⟨i + 1, A9, c9, s, now, by omega, by omega, by go_num, rfl, rfl, by omega, HSL, Lib.hid HI.out.up, HOP, HL⟩
              case measure => simp [intOf]; omega
            · have hk4 : (K.tmod 6 == 3) = false := by simpa using hk3
              by_cases hk5 : 0 ≤ K.tmod 6
              · have hk6 : 2 < K.tmod 6 := by omega
                clear hk
                go_wp2_with fail
                refine (rdueW_any A' l.length c' l (now + 1) _ (by omega) ⟨by omega, by omega⟩ HI.out.lies).mono ?_
                rintro e w8 ⟨A1, c1, A9, c9, rfl, ho1, ho2, hl8⟩
                have HN1 := Lib.hid (Ns.of_own (B := w8.heap.size) (Nat.le_refl _) ho1.2 ho1.1)
                have HF1 := Lib.hid ho1.fromI
                have HI8 := Lib.hid (HI.out.take ho2 hl8)
                replace HOP := Lib.hid (HOP.out.below (hl8.mono HL.out.size))
                replace HL := Lib.hid (HL.out.trans (hl8.mono HL.out.size))
                have HTOP := Lib.hid hl8.size
                have HZA := Lib.hid hbA.lt
                clear ho1 ho2 hl8 HI
                go_wp2_with fail
                refine (HI8.out.advance HL.out.size (by omega)).mono ?_
                rintro e w9 ⟨B, cb, rfl, hnb, hi9, hb9, hk9⟩
                have HN2 := Lib.hid hnb
                have HN3 := Lib.hid (show Ns w9 w9.heap.size A1 (dueW l (now + 1)).length (dueW l (now + 1)) from (HN1.out.upperI HF1.out (fun p h0 h1 => World.cell?_of_block (hk9 p.block (by have := HZA.out; omega) h1))).more hb9.size)
                have HI := Lib.hid hi9
                replace HOP := Lib.hid (HOP.out.below hb9)
                replace HL := Lib.hid (HL.out.trans hb9)
                have hdl : (dueW l (now + 1)).length ≤ 256 * l.length := upW_len l (now + 1) 256
                clear hnb hi9 hb9 hk9 HN1 HF1 HI8 HTOP HZA
                have hsl : (restW l (now + 1)).length ≤ i + 1 := by have := restW_len l (now + 1); omega
                generalize dueW l (now + 1) = du at *
                generalize restW l (now + 1) = s at *
                go_wp2_with fail
                refine (rints_any B A1 du.length cb du.length c1 du du w9 (by omega) HN2.out HN3.out).mono ?_
                rintro e w9b ⟨rfl, hl⟩
                rw [show decide (du = du) = true by simp]
                replace HI := Lib.hid (HI.out.low hl)
                replace HOP := Lib.hid (HOP.out.below (hl.mono HL.out.size))
                replace HL := Lib.hid (HL.out.trans (hl.mono HL.out.size))
                clear hl
                clear HN2 HN3 hdl

                have hss : ((s.length : Int) != (s.length : Int)) = false := by simp
                have hnn : (((now + 1) : Int) != ((now + 1) : Int)) = false := by simp
                have HSL := Lib.hid hsl
                clear hsl
                go_wp2_with fail
                refine (HI.out.now_).mono ?_
                rintro e w10 ⟨rfl, hl⟩
                replace HI := Lib.hid (HI.out.low hl)
                replace HOP := Lib.hid (HOP.out.below (hl.mono HL.out.size))
                replace HL := Lib.hid (HL.out.trans (hl.mono HL.out.size))
                clear hl
                go_wp2_with fail
                refine (HI.out.len).mono ?_
                rintro e w11 ⟨rfl, hl⟩
                replace HI := Lib.hid (HI.out.low hl)
                replace HOP := Lib.hid (HOP.out.below (hl.mono HL.out.size))
                replace HL := Lib.hid (HL.out.trans (hl.mono HL.out.size))
                clear hl
                clear hss hnn
                go_wp2_with fail
                go_roundw
                case rel => exact ⟨i + 1, A9, c9, s, (now + 1), by omega, by omega, by go_num, rfl, rfl, by omega, HSL, Lib.hid HI.out.up, HOP, HL⟩
                case measure => simp [intOf]; omega
              · have hk6 : K.tmod 6 < 0 := by omega
                clear hk hk5
                go_wp2_with fail
                refine (rdueW_any A' l.length c' l (now + 1) _ (by omega) ⟨by omega, by omega⟩ HI.out.lies).mono ?_
                rintro e w8 ⟨A1, c1, A9, c9, rfl, ho1, ho2, hl8⟩
                have HN1 := Lib.hid (Ns.of_own (B := w8.heap.size) (Nat.le_refl _) ho1.2 ho1.1)
                have HF1 := Lib.hid ho1.fromI
                have HI8 := Lib.hid (HI.out.take ho2 hl8)
                replace HOP := Lib.hid (HOP.out.below (hl8.mono HL.out.size))
                replace HL := Lib.hid (HL.out.trans (hl8.mono HL.out.size))
                have HTOP := Lib.hid hl8.size
                have HZA := Lib.hid hbA.lt
                clear ho1 ho2 hl8 HI
                go_wp2_with fail
                refine (HI8.out.advance HL.out.size (by omega)).mono ?_
                rintro e w9 ⟨B, cb, rfl, hnb, hi9, hb9, hk9⟩
                have HN2 := Lib.hid hnb
                have HN3 := Lib.hid (show Ns w9 w9.heap.size A1 (dueW l (now + 1)).length (dueW l (now + 1)) from (HN1.out.upperI HF1.out (fun p h0 h1 => World.cell?_of_block (hk9 p.block (by have := HZA.out; omega) h1))).more hb9.size)
                have HI := Lib.hid hi9
                replace HOP := Lib.hid (HOP.out.below hb9)
                replace HL := Lib.hid (HL.out.trans hb9)
                have hdl : (dueW l (now + 1)).length ≤ 256 * l.length := upW_len l (now + 1) 256
                clear hnb hi9 hb9 hk9 HN1 HF1 HI8 HTOP HZA
                have hsl : (restW l (now + 1)).length ≤ i + 1 := by have := restW_len l (now + 1); omega
                generalize dueW l (now + 1) = du at *
                generalize restW l (now + 1) = s at *
                go_wp2_with fail
                refine (rints_any B A1 du.length cb du.length c1 du du w9 (by omega) HN2.out HN3.out).mono ?_
                rintro e w9b ⟨rfl, hl⟩
                rw [show decide (du = du) = true by simp]
                replace HI := Lib.hid (HI.out.low hl)
                replace HOP := Lib.hid (HOP.out.below (hl.mono HL.out.size))
                replace HL := Lib.hid (HL.out.trans (hl.mono HL.out.size))
                clear hl
                clear HN2 HN3 hdl

                have hss : ((s.length : Int) != (s.length : Int)) = false := by simp
                have hnn : (((now + 1) : Int) != ((now + 1) : Int)) = false := by simp
                have HSL := Lib.hid hsl
                clear hsl
                go_wp2_with fail
                refine (HI.out.now_).mono ?_
                rintro e w10 ⟨rfl, hl⟩
                replace HI := Lib.hid (HI.out.low hl)
                replace HOP := Lib.hid (HOP.out.below (hl.mono HL.out.size))
                replace HL := Lib.hid (HL.out.trans (hl.mono HL.out.size))
                clear hl
                go_wp2_with fail
                refine (HI.out.len).mono ?_
                rintro e w11 ⟨rfl, hl⟩
                replace HI := Lib.hid (HI.out.low hl)
                replace HOP := Lib.hid (HOP.out.below (hl.mono HL.out.size))
                replace HL := Lib.hid (HL.out.trans (hl.mono HL.out.size))
                clear hl
                clear hss hnn
                go_wp2_with fail
                go_roundw
                case rel => exact ⟨i + 1, A9, c9, s, (now + 1), by omega, by omega, by go_num, rfl, rfl, by omega, HSL, Lib.hid HI.out.up, HOP, HL⟩
                case measure => simp [intOf]; omega
    · clear HOP
      by_cases him : i < m
      · have hlt1 : (i : Int) < m := by omega
        have hlt3 : (200 : Int) ≤ i := by omega
        clear hlt
        go_wp2_with fail
        refine (HLV.out wr).mono ?_
        rintro e w4 ⟨rfl, hl⟩
        have hL9 := Lib.hid (HL.out.trans (hl.mono HL.out.size))
        clear hl
        go_wp2_with fail
        go_ret
        exact ⟨rfl, hL9.out⟩
      · have hlt1 : ¬ (i : Int) < m := by omega
        clear hlt
        go_wp2_with fail
        refine (HLV.out wr).mono ?_
        rintro e w4 ⟨rfl, hl⟩
        have hL9 := Lib.hid (HL.out.trans (hl.mono HL.out.size))
        clear hl
        go_wp2_with fail
        go_ret
        exact ⟨rfl, hL9.out⟩
end Go.Proofs.Ythbboiolhejmmaa
