/- Stage 21: the walk of SlotsReach, given the program's own table. Conditions: each argument lies as the form says. -/
import Derived.Test.YtipggnjjmpacmaaSlD
set_option maxRecDepth 100000
namespace Go.Proofs.Ytipggnjjmpacmaa
open Go.RowKit
set_option linter.unusedVariables false

/-- the program's table, with these cells -/
def SlHas (O : SlObj) (base : Nat) (w : World) (p : Value) (n : Nat) (cs : List (Option (Int × Int))) : Prop := ∃ F, O.R w p F n cs ∧ (∀ k, F k → base ≤ k)
theorem SlHas.low {O : SlObj} {base : Nat} {w w' : World} {p : Value} {n : Nat} {cs : List (Option (Int × Int))} (h : SlHas O base w p n cs) (hl : Low w w') : SlHas O base w' p n cs := by
  obtain ⟨F, h1, h2⟩ := h
  exact ⟨F, O.low h1 hl, h2⟩
theorem SlHas.right {O : SlObj} {base : Nat} {w : World} {p : Value} {n : Nat} {cs : List (Option (Int × Int))} (h : SlHas O base w p n cs) : (1 ≤ n ∧ n ≤ 256) ∧ StS n (homeS n) cs := by
  obtain ⟨F, h1, h2⟩ := h
  exact O.right h1
/-- some cells -/
def SlSome (O : SlObj) (base : Nat) (w : World) (p : Value) (n : Nat) : Prop := ∃ cs, SlHas O base w p n cs
theorem SlSome.low {O : SlObj} {base : Nat} {w w' : World} {p : Value} {n : Nat} (h : SlSome O base w p n) (hl : Low w w') : SlSome O base w' p n := by
  obtain ⟨cs, h⟩ := h
  exact ⟨cs, h.low hl⟩
theorem SlSome.put {O : SlObj} {base : Nat} {w : World} {p : Value} {n : Nat} {k v : Int} (h : SlSome O base w p n) (hb : base ≤ w.heap.size) (hk : i64ok k) (hv : i64ok v) :
    Calls Try.prog 9 #[p, .int .i64 k, .int .i64 v] w fun e w' => ∃ b : Bool, e = .returned (.bool b) ∧ SlSome O base w' p n ∧ Below base w w' := by
  obtain ⟨cs, F, h1, h2⟩ := h
  refine (O.put k v h1 hk hv).mono ?_
  rintro e w' ⟨rfl, F', cs', hR, _, hG, hO⟩
  exact ⟨_, rfl, ⟨cs', F', hR, hG.from_ h2 hb⟩, hO.below h2 hb⟩
theorem SlSome.del {O : SlObj} {base : Nat} {w : World} {p : Value} {n : Nat} {k : Int} (h : SlSome O base w p n) (hb : base ≤ w.heap.size) (hk : i64ok k) :
    Calls Try.prog 11 #[p, .int .i64 k] w fun e w' => ∃ b : Bool, e = .returned (.bool b) ∧ SlSome O base w' p n ∧ Below base w w' := by
  obtain ⟨cs, F, h1, h2⟩ := h
  refine (O.del k h1 hk).mono ?_
  rintro e w' ⟨rfl, F', cs', hR, _, hG, hO⟩
  exact ⟨_, rfl, ⟨cs', F', hR, hG.from_ h2 hb⟩, hO.below h2 hb⟩
/-- how many of the first cells have a key -/
def manyS (cs : List (Option (Int × Int))) (i : Nat) : Nat := (pairsS (cs.take i)).length
theorem manyS_zero (cs : List (Option (Int × Int))) : manyS cs 0 = 0 := by simp [manyS, pairsS]
theorem manyS_none {cs : List (Option (Int × Int))} {i : Nat} (h : cs[i]? = some none) : manyS cs (i + 1) = manyS cs i := by
  obtain ⟨hi, e⟩ := List.getElem?_eq_some_iff.1 h
  unfold manyS pairsS
  rw [List.take_succ_eq_append_getElem hi, List.filterMap_append, e]
  simp
theorem manyS_some {cs : List (Option (Int × Int))} {i : Nat} {p : Int × Int} (h : cs[i]? = some (some p)) : manyS cs (i + 1) = manyS cs i + 1 := by
  obtain ⟨hi, e⟩ := List.getElem?_eq_some_iff.1 h
  unfold manyS pairsS
  rw [List.take_succ_eq_append_getElem hi, List.filterMap_append, e]
  simp
theorem manyS_all (cs : List (Option (Int × Int))) : manyS cs cs.length = (pairsS cs).length := by unfold manyS; rw [List.take_length]
theorem manyS_le (cs : List (Option (Int × Int))) (i : Nat) : manyS cs i ≤ i := by
  unfold manyS
  refine Nat.le_trans (pairsS_len _) ?_
  simp
  omega

set_option maxHeartbeats 6400000 in
set_option maxRecDepth 100000 in
theorem slr_walk (O : SlObj) (N : Int) (A : Option Addr) (m c : Nat) (ops : List (Int × Int × Int)) (w : World) (hN : i64ok N) (hm : m ≤ 140737488355328) (ha : Es tr3E w w.heap.size A m ops) :
    Calls Try.prog 4 #[.int .i64 N, .slice A m c] w fun e w' => e = .returned (.bool true) ∧ Low w w' := by
  have HLV := Lib.hid fun u => sllives_any O u
  have HA := Lib.hid ha
  clear ha
  by_cases hr : 1 ≤ N ∧ N ≤ 256
  · obtain ⟨n, rfl⟩ : ∃ n : Nat, N = n := ⟨N.toNat, by omega⟩
    have hn1 : 1 ≤ n := by omega
    have hn2 : n ≤ 256 := by omega
    clear hr hN
    go_enter Try.func4, Try.ntmps4
    go_wp2_with fail
    refine (O.new n w hn1 hn2).mono ?_
    rintro e w1 ⟨g, F0, rfl, hR, hF, hl⟩
    have HI := Lib.hid (show SlSome O w.heap.size w1 (.pointer (some ⟨g, 0, none⟩)) n from ⟨_, F0, hR, hF⟩)
    have HOP := Lib.hid (HA.out.below hl)
    have HL := Lib.hid (show Below w.heap.size w w1 from hl)
    clear hR hF hl HA
    go_wp2_with fail
    go_loopw [6] (fun v6 wr => ∃ (i : Nat), i ≤ m ∧ i ≤ 100 ∧ v6 = .int .i64 i ∧ Hid (SlSome O w.heap.size wr (.pointer (some ⟨g, 0, none⟩)) n) ∧ Hid (Es tr3E wr w.heap.size A m ops) ∧ Hid (Below w.heap.size w wr)) (fun v _ => 100 - (intOf v).toNat)
    case atStart => exact ⟨0, by omega, by omega, rfl, HI, HOP, HL⟩
    case round =>
      clear HI HOP HL
      obtain ⟨i, hi, hi100, rfl, HI, HOP, HL⟩ := hrel
      by_cases hlt : i < m ∧ i < 100
      · have hlt1 : (i : Int) < m := by omega
        have hlt2 : (i : Int) < 100 := by omega
        obtain ⟨ob, oo, rfl, hob, c0, c1, c2, k0, k1, k2⟩ := tr3_at HOP.out hlt.1
        generalize (ops.getD i (0, 0, 0)).1 = K at *
        generalize (ops.getD i (0, 0, 0)).2.1 = k at *
        generalize (ops.getD i (0, 0, 0)).2.2 = v at *
        have HK := Lib.hid k1
        have HV := Lib.hid k2
        clear k0 k1 k2
        by_cases h4 : K.tmod 7 = 4 ∨ K.tmod 7 = 5
        · rcases h4 with h4 | h4
          · clear c2
            go_wp2_with fail
            refine (HI.out.del HL.out.size HK.out).mono ?_
            rintro e w8 ⟨b, rfl, hi8, hb8⟩
            have HI8 := Lib.hid hi8
            have HOP8 := Lib.hid (HOP.out.below hb8)
            have HL8 := Lib.hid (HL.out.trans hb8)
            clear hi8 hb8 HI HOP HL c0 c1
            go_wp2_with fail
            go_roundw
            case rel => exact ⟨i + 1, by omega, by omega, by go_num, HI8, HOP8, HL8⟩
            case measure => simp [intOf]; omega
          · clear c2
            go_wp2_with fail
            refine (HI.out.del HL.out.size HK.out).mono ?_
            rintro e w8 ⟨b, rfl, hi8, hb8⟩
            have HI8 := Lib.hid hi8
            have HOP8 := Lib.hid (HOP.out.below hb8)
            have HL8 := Lib.hid (HL.out.trans hb8)
            clear hi8 hb8 HI HOP HL c0 c1
            go_wp2_with fail
            go_roundw
            case rel => exact ⟨i + 1, by omega, by omega, by go_num, HI8, HOP8, HL8⟩
            case measure => simp [intOf]; omega
        · have h5 : ¬ K.tmod 7 = 4 := fun e => h4 (.inl e)
          have h6 : ¬ K.tmod 7 = 5 := fun e => h4 (.inr e)
          have h7 : (K.tmod 7 == 4) = false := by simpa using h5
          have h8 : (K.tmod 7 == 5) = false := by simpa using h6
          clear h4
          go_wp2_with fail
          refine wp_region_planS (fun y => y.cell? ⟨ob, oo + i * 3 + 1, none⟩ = some (.int .i64 k) ∧ y.cell? ⟨ob, oo + i * 3 + 2, none⟩ = some (.int .i64 v)) (.rd 0 (.rd 1 (.rd 2 (.rd 3 (.rd 4 (.rd 5 (.rd 6 (.rd 7 (.rd 8 (.rd 9 (.rd 10 (.act 11 (.done))))))))))))) (by kernel_rfl) (by kernel_rfl) (fun _ _ d _ _ h => by cases d <;> exact h) (by kernel_rfl) ⟨c1, c2⟩ ?_
          replace HI : Hid (SlSome O w.heap.size wr.drew (.pointer (some ⟨g, 0, none⟩)) n) := Lib.hid (HI.out.low (show Low wr wr.drew from Below.drew (Low.refl wr)))
          replace HOP : Hid (Es tr3E wr.drew w.heap.size (some ⟨ob, oo, none⟩) m ops) := Lib.hid (HOP.out.keep fun _ _ => rfl)
          replace HL : Hid (Below w.heap.size w wr.drew) := Lib.hid (Below.drew HL.out)
          replace c1 : wr.drew.cell? ⟨ob, oo + i * 3 + 1, none⟩ = _ := c1
          replace c2 : wr.drew.cell? ⟨ob, oo + i * 3 + 2, none⟩ = _ := c2
          replace c0 : wr.drew.cell? ⟨ob, oo + i * 3, none⟩ = _ := c0
          generalize wr.drew = wd at *
          replace c0 := Lib.hid c0
          replace c1 := Lib.hid c1
          replace c2 := Lib.hid c2
          iterate 11 (refine walkS_read (v := _) rfl (by rfl) (by rintro yw ⟨r1, r2⟩; go_simp; try rfl) ?_; simp only [Act.put, List.setIfInBounds_toArray, List.set_cons_zero, List.set_cons_succ])
          refine walkS_act rfl (by rfl) (fun K2 hK2 => ?_)
          go_simp
          refine (HI.out.put HL.out.size HK.out HV.out).mono ?_
          rintro e w8 ⟨b, rfl, hi8, hb8⟩
          have HI8 := Lib.hid hi8
          have HOP8 := Lib.hid (HOP.out.below hb8)
          have HL8 := Lib.hid (HL.out.trans hb8)
          have d1 := (hb8.cell (p := ⟨ob, oo + i * 3 + 1, none⟩) hob).trans c1.out
          have d2 := (hb8.cell (p := ⟨ob, oo + i * 3 + 2, none⟩) hob).trans c2.out
          go_simp
          refine hK2 _ _ ⟨d1, d2⟩ ?_
          clear hK2 K2 hi8 hb8 HI HOP HL c0 c1 c2 d1 d2
          unfold walkS
          go_wp2_with fail
          go_roundw
          case rel => exact ⟨i + 1, by omega, by omega, by go_num, HI8, HOP8, HL8⟩
          case measure => simp [intOf]; omega
      · clear HOP
        by_cases him : i < m
        · have hlt1 : (i : Int) < m := by omega
          have hlt3 : (100 : Int) ≤ i := by omega
          clear hlt
          obtain ⟨cs, HI⟩ := HI.out
          replace HI := Lib.hid HI
          have HST := Lib.hid HI.out.right.2
          have hcl := HST.out.len
          go_wp2_with fail
          go_loopw [8, 9] (fun v8 v9 wr => ∃ (i q : Nat), i ≤ n ∧ v9 = .int .i64 i ∧ v8 = .int .i64 q ∧ Hid (q = manyS cs i) ∧ q ≤ i ∧ Hid (SlHas O w.heap.size wr (.pointer (some ⟨g, 0, none⟩)) n cs) ∧ Hid (Below w.heap.size w wr)) (fun _ v _ => n - (intOf v).toNat)
          case atStart => exact ⟨0, 0, Nat.zero_le _, rfl, rfl, Lib.hid (manyS_zero cs).symm, Nat.le_refl _, HI, HL⟩
          case round =>
            clear HI HL
            obtain ⟨i, q, hi, rfl, rfl, HQ, hq, HI, HL⟩ := hrel
            obtain ⟨F, hF⟩ := HI.out
            have HFR := Lib.hid hF.1
            have HFB := Lib.hid hF.2
            clear hF HI
            go_wp2_with fail
            refine (O.cap HFR.out).mono ?_
            rintro e w3 ⟨rfl, hl⟩
            replace HFR := Lib.hid (O.low HFR.out hl)
            replace HL := Lib.hid (HL.out.trans (hl.mono HL.out.size))
            clear hl
            by_cases hin : i < n
            · have hin2 : (i : Int) < n := by omega
              have hci : i < cs.length := by omega
              cases hx : cs[i]? with
              | none => rw [List.getElem?_eq_getElem hci] at hx; cases hx
              | some o =>
                cases o with
                | none =>
                  have HQ2 := Lib.hid (show q = manyS cs (i + 1) by rw [manyS_none hx]; exact HQ.out)
                  have HCN := Lib.hid (fun u h => O.cellNot (w := u) (p := .pointer (some ⟨g, 0, none⟩)) (F := F) (n := n) (i : Int) h (by unfold i64ok; omega) (fun j y e e2 => by
                    have : i = j := by omega
                    subst this
                    rw [hx] at e2
                    cases e2))
                  clear hx HQ
                  go_wp2_with fail
                  refine (HCN.out _ HFR.out).mono ?_
                  rintro e w4 ⟨rfl, hl⟩
                  have HI4 := Lib.hid (show SlHas O w.heap.size w4 (.pointer (some ⟨g, 0, none⟩)) n cs from ⟨F, O.low HFR.out hl, HFB.out⟩)
                  have HL4 := Lib.hid (HL.out.trans (hl.mono HL.out.size))
                  clear hl HFR HFB HL HCN
                  go_wp2_with fail
                  go_roundw
                  case rel => exact ⟨i + 1, q, by omega, by go_num, rfl, HQ2, by omega, HI4, HL4⟩
                  case measure => simp [intOf]; omega
                | some x =>
                  have HQ2 := Lib.hid (show q + 1 = manyS cs (i + 1) by rw [manyS_some hx, HQ.out])
                  have HOK := Lib.hid (HST.out.ok i x hx)
                  have HRC := Lib.hid (HST.out.reach i x hx)
                  have HON := Lib.hid (fun b y (e : cs[b]? = some (some y)) => HST.out.one b i y x e hx)
                  have HMM := Lib.hid (pairsS_mem.2 ⟨i, hx⟩)
                  have HHS := Lib.hid (hasS_iff.2 ⟨x.2, pairsS_mem.2 ⟨i, hx⟩⟩)
                  have HKY := Lib.hid HST.out.keys
                  have HCL := Lib.hid (fun u h => O.cell (w := u) (p := .pointer (some ⟨g, 0, none⟩)) (F := F) (n := n) i x h hx)
                  have hhl := homeS_lt (n := n) (by omega) x.1
                  have HFA := Lib.hid (farS_at hhl hin)
                  have HFN := Lib.hid (fun j hj => @farS_ne n (homeS n x.1) i j hhl hin hj)
                  have HF0 := Lib.hid (farS_lt (n := n) (h := homeS n x.1) (i := i) (by omega))
                  have HFS := Lib.hid (fun j hj => @farS_step n (homeS n x.1) i j hhl hin hj)
                  obtain ⟨h, hh⟩ : ∃ h, h = homeS n x.1 := ⟨_, rfl⟩
                  rw [← hh] at HRC hhl HFA HFN HF0 HFS
                  have HHO := Lib.hid (fun u hu => O.home (w := u) (p := .pointer (some ⟨g, 0, none⟩)) (F := F) (n := n) (cs := cs) x.1 hu HOK.out.1)
                  rw [← hh] at HHO
                  have HGE := Lib.hid (fun u hu => O.get (w := u) (p := .pointer (some ⟨g, 0, none⟩)) (F := F) (n := n) (cs := cs) x.1 hu HOK.out.1)
                  rw [HHS.out] at HGE
                  replace hh := Lib.hid hh
                  obtain ⟨k, v⟩ := x
                  generalize farS n h i = d at *
                  clear hx HQ HST HHS
                  go_wp2_with fail
                  refine (HCL.out _ HFR.out).mono ?_
                  rintro e w4 ⟨rfl, hl⟩
                  replace HFR := Lib.hid (O.low HFR.out hl)
                  replace HL := Lib.hid (HL.out.trans (hl.mono HL.out.size))
                  clear hl HCL
                  go_wp2_with fail
                  refine (HHO.out _ HFR.out).mono ?_
                  rintro e w5 ⟨rfl, hl⟩
                  replace HFR := Lib.hid (O.low HFR.out hl)
                  replace HL := Lib.hid (HL.out.trans (hl.mono HL.out.size))
                  have hh0 : ¬ (h : Int) < 0 := by omega
                  have hd0 : decide ((h : Int) < 0) = false := decide_eq_false (by omega)
                  have hd1 : decide ((n : Int) ≤ (h : Int)) = false := decide_eq_false (by omega)
                  have hd2 : decide (n ≤ h) = false := decide_eq_false (by omega)
                  have hh1 : ¬ (n : Int) ≤ h := by omega
                  clear hl HHO
                  go_wp2_with fail
                  refine (O.cap HFR.out).mono ?_
                  rintro e w6 ⟨rfl, hl⟩
                  replace HFR := Lib.hid (O.low HFR.out hl)
                  replace HL := Lib.hid (HL.out.trans (hl.mono HL.out.size))
                  clear hl
                  have hmod0 : (h + 0) % n = h := Nat.mod_eq_of_lt hhl
                  go_wp2_with fail
                  clear hh0 hh1 hd0 hd1 hd2
                  go_loopw [13] (fun v13 wr => ∃ (j : Nat), j ≤ d ∧ v13 = .int .i64 (((h + j) % n : Nat) : Int) ∧ Hid (O.R wr (.pointer (some ⟨g, 0, none⟩)) F n cs) ∧ Hid (Below w.heap.size w wr)) (fun v _ => farS n (intOf v).toNat i)
                  case atStart => exact ⟨0, Nat.zero_le _, by rw [hmod0], HFR, HL⟩
                  case round =>
                    obtain ⟨j, hj, rfl, HFR, HL⟩ := hrel
                    have HJM := Lib.hid (HFS.out j hj)
                    have hmn : (h + j) % n < n := Nat.mod_lt _ (by omega)
                    by_cases hjd : j < d
                    · have hne := HFN.out j hjd
                      obtain ⟨y, hy⟩ := HRC.out j hjd
                      have hyk : y.1 ≠ k := fun e => hne (HON.out _ y hy e)
                      have HCL := Lib.hid (fun u hu => O.cell (w := u) (p := .pointer (some ⟨g, 0, none⟩)) (F := F) (n := n) ((h + j) % n) y hu hy)
                      have HNX := Lib.hid (HFS.out (j + 1) (by omega))
                      have HMS := Lib.hid (show ((h + j) % n + 1) % n = (h + (j + 1)) % n by rw [show h + (j + 1) = (h + j) + 1 by omega]; simp [Nat.add_mod])
                      obtain ⟨a, haa⟩ : ∃ a, a = (h + j) % n := ⟨_, rfl⟩
                      rw [← haa] at hmn hne HCL HMS HJM ⊢
                      clear hy haa
                      obtain ⟨y1, y2⟩ := y
                      have hy1 : (y1 == k) = false := by simpa using hyk
                      have hai : ((a : Int) != (i : Int)) = true := by simp; omega
                      have hna : (n : Int) ≠ 0 := by omega
                      have htm : ((a : Int) + 1).tmod (n : Int) = (((a + 1) % n : Nat) : Int) := by rw [show (a : Int) + 1 = ((a + 1 : Nat) : Int) by simp, Int.ofNat_tmod]
                      have HA1 := Lib.hid (show (a + 1) % n < n from Nat.mod_lt _ (by omega))
                      obtain ⟨a2, ha2⟩ : ∃ a2, a2 = (a + 1) % n := ⟨_, rfl⟩
                      rw [← ha2] at htm HMS HA1
                      clear hyk hne ha2 hj
                      go_wp2_with fail
                      refine (HCL.out _ HFR.out).mono ?_
                      rintro e w4 ⟨rfl, hl⟩
                      replace HFR := Lib.hid (O.low HFR.out hl)
                      replace HL := Lib.hid (HL.out.trans (hl.mono HL.out.size))
                      clear hl HCL hai
                      go_wp2_with fail
                      refine (O.cap HFR.out).mono ?_
                      rintro e w5 ⟨rfl, hl⟩
                      replace HFR := Lib.hid (O.low HFR.out hl)
                      replace HL := Lib.hid (HL.out.trans (hl.mono HL.out.size))
                      clear hl hy1
                      go_wp2_with fail
                      go_roundw
                      case rel => exact ⟨j + 1, by omega, by rw [← HMS.out], HFR, HL⟩
                      case measure => rw [HMS.out]; simp only [intOf]; rw [Int.toNat_natCast, Int.toNat_natCast, HNX.out, HJM.out]; omega
                    · obtain rfl : j = d := by omega
                      rw [HFA.out]
                      have hii : ((i : Int) != (i : Int)) = false := by simp
                      clear hjd hmn HJM
                      go_wp2_with fail
                      refine (HGE.out _ HFR.out).mono ?_
                      rintro e w4 ⟨z, rfl, hz, _, hl⟩
                      obtain rfl : z = v := one_of_keys HKY.out (hz trivial) HMM.out
                      have hzz : (z != z) = false := by simp
                      have HI4 := Lib.hid (show SlHas O w.heap.size w4 (.pointer (some ⟨g, 0, none⟩)) n cs from ⟨F, O.low HFR.out hl, HFB.out⟩)
                      have HL4 := Lib.hid (HL.out.trans (hl.mono HL.out.size))
                      clear hl HFR HFB HL hii
                      go_wp2_with fail
                      go_roundw
                      case rel => exact ⟨i + 1, q + 1, by omega, by go_num, by go_num, HQ2, by omega, HI4, HL4⟩
                      case measure => simp [intOf]; omega
            · obtain rfl : i = n := by omega
              have hin2 : ¬ (i : Int) < i := by omega
              have HQ3 := Lib.hid (show q = (pairsS cs).length by rw [HQ.out, ← hcl, manyS_all])
              go_wp2_with fail
              refine (O.len HFR.out).mono ?_
              rintro e w4 ⟨rfl, hl⟩
              rw [← HQ3.out]
              replace HL := Lib.hid (HL.out.trans (hl.mono HL.out.size))
              have hqq : ((q : Int) == (q : Int)) = true := by simp
              clear hl HFR HFB
              go_wp2_with fail
              refine (HLV.out w4).mono ?_
              rintro e w5 ⟨rfl, hl⟩
              have HL9 := Lib.hid (HL.out.trans (hl.mono HL.out.size))
              clear hl
              go_wp2_with fail
              go_ret
              exact ⟨rfl, HL9.out⟩
        · have hlt1 : ¬ (i : Int) < m := by omega
          clear hlt
          obtain ⟨cs, HI⟩ := HI.out
          replace HI := Lib.hid HI
          have HST := Lib.hid HI.out.right.2
          have hcl := HST.out.len
          go_wp2_with fail
          go_loopw [8, 9] (fun v8 v9 wr => ∃ (i q : Nat), i ≤ n ∧ v9 = .int .i64 i ∧ v8 = .int .i64 q ∧ Hid (q = manyS cs i) ∧ q ≤ i ∧ Hid (SlHas O w.heap.size wr (.pointer (some ⟨g, 0, none⟩)) n cs) ∧ Hid (Below w.heap.size w wr)) (fun _ v _ => n - (intOf v).toNat)
          case atStart => exact ⟨0, 0, Nat.zero_le _, rfl, rfl, Lib.hid (manyS_zero cs).symm, Nat.le_refl _, HI, HL⟩
          case round =>
            clear HI HL
            obtain ⟨i, q, hi, rfl, rfl, HQ, hq, HI, HL⟩ := hrel
            obtain ⟨F, hF⟩ := HI.out
            have HFR := Lib.hid hF.1
            have HFB := Lib.hid hF.2
            clear hF HI
            go_wp2_with fail
            refine (O.cap HFR.out).mono ?_
            rintro e w3 ⟨rfl, hl⟩
            replace HFR := Lib.hid (O.low HFR.out hl)
            replace HL := Lib.hid (HL.out.trans (hl.mono HL.out.size))
            clear hl
            by_cases hin : i < n
            · have hin2 : (i : Int) < n := by omega
              have hci : i < cs.length := by omega
              cases hx : cs[i]? with
              | none => rw [List.getElem?_eq_getElem hci] at hx; cases hx
              | some o =>
                cases o with
                | none =>
                  have HQ2 := Lib.hid (show q = manyS cs (i + 1) by rw [manyS_none hx]; exact HQ.out)
                  have HCN := Lib.hid (fun u h => O.cellNot (w := u) (p := .pointer (some ⟨g, 0, none⟩)) (F := F) (n := n) (i : Int) h (by unfold i64ok; omega) (fun j y e e2 => by
                    have : i = j := by omega
                    subst this
                    rw [hx] at e2
                    cases e2))
                  clear hx HQ
                  go_wp2_with fail
                  refine (HCN.out _ HFR.out).mono ?_
                  rintro e w4 ⟨rfl, hl⟩
                  have HI4 := Lib.hid (show SlHas O w.heap.size w4 (.pointer (some ⟨g, 0, none⟩)) n cs from ⟨F, O.low HFR.out hl, HFB.out⟩)
                  have HL4 := Lib.hid (HL.out.trans (hl.mono HL.out.size))
                  clear hl HFR HFB HL HCN
                  go_wp2_with fail
                  go_roundw
                  case rel => exact ⟨i + 1, q, by omega, by go_num, rfl, HQ2, by omega, HI4, HL4⟩
                  case measure => simp [intOf]; omega
                | some x =>
                  have HQ2 := Lib.hid (show q + 1 = manyS cs (i + 1) by rw [manyS_some hx, HQ.out])
                  have HOK := Lib.hid (HST.out.ok i x hx)
                  have HRC := Lib.hid (HST.out.reach i x hx)
                  have HON := Lib.hid (fun b y (e : cs[b]? = some (some y)) => HST.out.one b i y x e hx)
                  have HMM := Lib.hid (pairsS_mem.2 ⟨i, hx⟩)
                  have HHS := Lib.hid (hasS_iff.2 ⟨x.2, pairsS_mem.2 ⟨i, hx⟩⟩)
                  have HKY := Lib.hid HST.out.keys
                  have HCL := Lib.hid (fun u h => O.cell (w := u) (p := .pointer (some ⟨g, 0, none⟩)) (F := F) (n := n) i x h hx)
                  have hhl := homeS_lt (n := n) (by omega) x.1
                  have HFA := Lib.hid (farS_at hhl hin)
                  have HFN := Lib.hid (fun j hj => @farS_ne n (homeS n x.1) i j hhl hin hj)
                  have HF0 := Lib.hid (farS_lt (n := n) (h := homeS n x.1) (i := i) (by omega))
                  have HFS := Lib.hid (fun j hj => @farS_step n (homeS n x.1) i j hhl hin hj)
                  obtain ⟨h, hh⟩ : ∃ h, h = homeS n x.1 := ⟨_, rfl⟩
                  rw [← hh] at HRC hhl HFA HFN HF0 HFS
                  have HHO := Lib.hid (fun u hu => O.home (w := u) (p := .pointer (some ⟨g, 0, none⟩)) (F := F) (n := n) (cs := cs) x.1 hu HOK.out.1)
                  rw [← hh] at HHO
                  have HGE := Lib.hid (fun u hu => O.get (w := u) (p := .pointer (some ⟨g, 0, none⟩)) (F := F) (n := n) (cs := cs) x.1 hu HOK.out.1)
                  rw [HHS.out] at HGE
                  replace hh := Lib.hid hh
                  obtain ⟨k, v⟩ := x
                  generalize farS n h i = d at *
                  clear hx HQ HST HHS
                  go_wp2_with fail
                  refine (HCL.out _ HFR.out).mono ?_
                  rintro e w4 ⟨rfl, hl⟩
                  replace HFR := Lib.hid (O.low HFR.out hl)
                  replace HL := Lib.hid (HL.out.trans (hl.mono HL.out.size))
                  clear hl HCL
                  go_wp2_with fail
                  refine (HHO.out _ HFR.out).mono ?_
                  rintro e w5 ⟨rfl, hl⟩
                  replace HFR := Lib.hid (O.low HFR.out hl)
                  replace HL := Lib.hid (HL.out.trans (hl.mono HL.out.size))
                  have hh0 : ¬ (h : Int) < 0 := by omega
                  have hd0 : decide ((h : Int) < 0) = false := decide_eq_false (by omega)
                  have hd1 : decide ((n : Int) ≤ (h : Int)) = false := decide_eq_false (by omega)
                  have hd2 : decide (n ≤ h) = false := decide_eq_false (by omega)
                  have hh1 : ¬ (n : Int) ≤ h := by omega
                  clear hl HHO
                  go_wp2_with fail
                  refine (O.cap HFR.out).mono ?_
                  rintro e w6 ⟨rfl, hl⟩
                  replace HFR := Lib.hid (O.low HFR.out hl)
                  replace HL := Lib.hid (HL.out.trans (hl.mono HL.out.size))
                  clear hl
                  have hmod0 : (h + 0) % n = h := Nat.mod_eq_of_lt hhl
                  go_wp2_with fail
                  clear hh0 hh1 hd0 hd1 hd2
                  go_loopw [13] (fun v13 wr => ∃ (j : Nat), j ≤ d ∧ v13 = .int .i64 (((h + j) % n : Nat) : Int) ∧ Hid (O.R wr (.pointer (some ⟨g, 0, none⟩)) F n cs) ∧ Hid (Below w.heap.size w wr)) (fun v _ => farS n (intOf v).toNat i)
                  case atStart => exact ⟨0, Nat.zero_le _, by rw [hmod0], HFR, HL⟩
                  case round =>
                    obtain ⟨j, hj, rfl, HFR, HL⟩ := hrel
                    have HJM := Lib.hid (HFS.out j hj)
                    have hmn : (h + j) % n < n := Nat.mod_lt _ (by omega)
                    by_cases hjd : j < d
                    · have hne := HFN.out j hjd
                      obtain ⟨y, hy⟩ := HRC.out j hjd
                      have hyk : y.1 ≠ k := fun e => hne (HON.out _ y hy e)
                      have HCL := Lib.hid (fun u hu => O.cell (w := u) (p := .pointer (some ⟨g, 0, none⟩)) (F := F) (n := n) ((h + j) % n) y hu hy)
                      have HNX := Lib.hid (HFS.out (j + 1) (by omega))
                      have HMS := Lib.hid (show ((h + j) % n + 1) % n = (h + (j + 1)) % n by rw [show h + (j + 1) = (h + j) + 1 by omega]; simp [Nat.add_mod])
                      obtain ⟨a, haa⟩ : ∃ a, a = (h + j) % n := ⟨_, rfl⟩
                      rw [← haa] at hmn hne HCL HMS HJM ⊢
                      clear hy haa
                      obtain ⟨y1, y2⟩ := y
                      have hy1 : (y1 == k) = false := by simpa using hyk
                      have hai : ((a : Int) != (i : Int)) = true := by simp; omega
                      have hna : (n : Int) ≠ 0 := by omega
                      have htm : ((a : Int) + 1).tmod (n : Int) = (((a + 1) % n : Nat) : Int) := by rw [show (a : Int) + 1 = ((a + 1 : Nat) : Int) by simp, Int.ofNat_tmod]
                      have HA1 := Lib.hid (show (a + 1) % n < n from Nat.mod_lt _ (by omega))
                      obtain ⟨a2, ha2⟩ : ∃ a2, a2 = (a + 1) % n := ⟨_, rfl⟩
                      rw [← ha2] at htm HMS HA1
                      clear hyk hne ha2 hj
                      go_wp2_with fail
                      refine (HCL.out _ HFR.out).mono ?_
                      rintro e w4 ⟨rfl, hl⟩
                      replace HFR := Lib.hid (O.low HFR.out hl)
                      replace HL := Lib.hid (HL.out.trans (hl.mono HL.out.size))
                      clear hl HCL hai
                      go_wp2_with fail
                      refine (O.cap HFR.out).mono ?_
                      rintro e w5 ⟨rfl, hl⟩
                      replace HFR := Lib.hid (O.low HFR.out hl)
                      replace HL := Lib.hid (HL.out.trans (hl.mono HL.out.size))
                      clear hl hy1
                      go_wp2_with fail
                      go_roundw
                      case rel => exact ⟨j + 1, by omega, by rw [← HMS.out], HFR, HL⟩
                      case measure => rw [HMS.out]; simp only [intOf]; rw [Int.toNat_natCast, Int.toNat_natCast, HNX.out, HJM.out]; omega
                    · obtain rfl : j = d := by omega
                      rw [HFA.out]
                      have hii : ((i : Int) != (i : Int)) = false := by simp
                      clear hjd hmn HJM
                      go_wp2_with fail
                      refine (HGE.out _ HFR.out).mono ?_
                      rintro e w4 ⟨z, rfl, hz, _, hl⟩
                      obtain rfl : z = v := one_of_keys HKY.out (hz trivial) HMM.out
                      have hzz : (z != z) = false := by simp
                      have HI4 := Lib.hid (show SlHas O w.heap.size w4 (.pointer (some ⟨g, 0, none⟩)) n cs from ⟨F, O.low HFR.out hl, HFB.out⟩)
                      have HL4 := Lib.hid (HL.out.trans (hl.mono HL.out.size))
                      clear hl HFR HFB HL hii
                      go_wp2_with fail
                      go_roundw
                      case rel => exact ⟨i + 1, q + 1, by omega, by go_num, by go_num, HQ2, by omega, HI4, HL4⟩
                      case measure => simp [intOf]; omega
            · obtain rfl : i = n := by omega
              have hin2 : ¬ (i : Int) < i := by omega
              have HQ3 := Lib.hid (show q = (pairsS cs).length by rw [HQ.out, ← hcl, manyS_all])
              go_wp2_with fail
              refine (O.len HFR.out).mono ?_
              rintro e w4 ⟨rfl, hl⟩
              rw [← HQ3.out]
              replace HL := Lib.hid (HL.out.trans (hl.mono HL.out.size))
              have hqq : ((q : Int) == (q : Int)) = true := by simp
              clear hl HFR HFB
              go_wp2_with fail
              refine (HLV.out w4).mono ?_
              rintro e w5 ⟨rfl, hl⟩
              have HL9 := Lib.hid (HL.out.trans (hl.mono HL.out.size))
              clear hl
              go_wp2_with fail
              go_ret
              exact ⟨rfl, HL9.out⟩
  · have HN := Lib.hid (fun u => O.newNot N u hN hr)
    by_cases h1 : N < 1
    · go_enter Try.func4, Try.ntmps4
      go_wp2_with fail
      refine (HN.out w).mono ?_
      rintro e w1 ⟨rfl, hl⟩
      have hL := Lib.hid hl
      clear hl
      go_wp2_with fail
      refine (HLV.out w1).mono ?_
      rintro e w2 ⟨rfl, hl⟩
      replace hL := Lib.hid (hL.out.trans hl)
      clear hl
      go_wp2_with fail
      go_ret
      exact ⟨rfl, hL.out⟩
    · have h2 : 256 < N := by omega
      go_enter Try.func4, Try.ntmps4
      go_wp2_with fail
      refine (HN.out w).mono ?_
      rintro e w1 ⟨rfl, hl⟩
      have hL := Lib.hid hl
      clear hl
      go_wp2_with fail
      refine (HLV.out w1).mono ?_
      rintro e w2 ⟨rfl, hl⟩
      replace hL := Lib.hid (hL.out.trans hl)
      clear hl
      go_wp2_with fail
      go_ret
      exact ⟨rfl, hL.out⟩
end Go.Proofs.Ytipggnjjmpacmaa
