/- What addr.Read tells of any text. Conditions: it is shorter than 2^32 - 15 bytes (the model's bound); the library's variables hold what its text lays. -/
import Derived.Test.YtcdeabiellefcaaDoorAdL
namespace Go.Proofs.YtcdeabiellefcaaDoor
open Go.RowKit
set_option linter.unusedVariables false

theorem results_cell_tmp {P : Program} {fn : Func} {p q : Tmp} {ty : TypeId} (h : fn.results = #[.cell p ty, .tmp q]) (tmps : Array Value) (w : World) (g : Nat) (t : TypeId) (cs : Array Value) (fr : Nat × Nat) (d : TypeDesc) (v : Value)
    (hp : tmps.getD p undef = .pointer (some ⟨g, 0, none⟩)) (hq : tmps.getD q undef = v) (hg : w.heap[g]? = some (.cells cs t fr))
    (hu : P.underlying ty = some d) (hd : (match d with | .struct _ | .array _ _ => true | _ => false) = true) (hi : (P.info? ty).map (·.size) = some cs.size) :
    (results fn tmps).run P w = .ok (.tuple #[.agg cs, v]) w := by
  have hp' : tmps[p]?.getD undef = .pointer (some ⟨g, 0, none⟩) := by simpa using hp
  have hq' : tmps[q]?.getD undef = v := by simpa using hq
  simp [results, h, hp', hq', asAddr, run_loadVar_row w g t ty cs fr d hg hu hd hi]

/-- the numbers of what stands ahead of ::, and behind it, make an address, if they are as many as they may be -/
def readP (short : Bool) (x y : Option (List Int)) : Option (List Int) :=
  match x, y with
  | some a, some b => if (if short then a.length + b.length ≤ 7 else a.length + b.length = 8) then some (ofL (a ++ (List.replicate (8 - a.length - b.length) 0 ++ b))) else none
  | _, _ => none
def readL (l : List UInt8) : Option (List Int) := readP (Lib.cut l [58, 58]).2.2 (rdGroups (Lib.cut l [58, 58]).1) (rdGroups (Lib.cut l [58, 58]).2.1)
def GivesA (w : World) (o : Option (List Int)) (e : Ending) (w' : World) : Prop := e = .returned (.tuple #[addrV (o.getD zero16), .int .i64 (if o.isSome then 0 else 5)]) ∧ Below w.heap.size w w'
theorem cut_le (l sep : List UInt8) : (Lib.cut l sep).1.length ≤ l.length ∧ (Lib.cut l sep).2.1.length ≤ l.length := by
  unfold Lib.cut
  split
  · simp; omega
  · simp

theorem RowN.three {w : World} {g : Nat} {t : TypeId} {a0 a1 a2 : Option Addr} {n0 n1 n2 c0 c1 c2 : Nat} {y0 y1 y2 : List Int} (h : w.heap[g]? = some (.cells #[.slice a0 n0 c0, .slice a1 n1 c1, .slice a2 n2 c2] t (0, 0)))
    (h0 : Ns w w.heap.size a0 n0 y0) (h1 : Ns w w.heap.size a1 n1 y1) (h2 : Ns w w.heap.size a2 n2 y2) : RowN w (some ⟨g, 0, none⟩) [(a0, n0, c0), (a1, n1, c1), (a2, n2, c2)] [y0, y1, y2] := by
  refine ⟨rfl, fun i hi => ?_, fun _ => ⟨g, 0, rfl, (Array.getElem?_eq_some_iff.1 h).1, fun i hi => ?_⟩⟩
  · match i, hi with
    | 0, _ => exact h0
    | 1, _ => exact h1
    | 2, _ => exact h2
  · rw [cell_of_row w g (0 + i) _ t (0, 0) h]
    match i, hi with
    | 0, _ => rfl
    | 1, _ => rfl
    | 2, _ => rfl
theorem AllI.zeros (m : Nat) : AllI (List.replicate m 0) := fun x hx => by
  obtain rfl : x = 0 := List.eq_of_mem_replicate hx
  omega
theorem run_zeros (m : Nat) (hm : m ≤ 8) (u : World) : (Instr.makeSlice 24 (.int .i64 (m : Int)) (.int .i64 (m : Int))).run Tryd.prog u =
      .ok (.slice (some ⟨u.heap.size, 0, none⟩) m m) (u.alloc (.cells (cellsN (List.replicate m 0)).toArray 3)) := by
  obtain ⟨i0, hi, hz0, hz1, hz2⟩ := info_int_parts
  have h := run_make (P := Tryd.prog) u 24 3 i0 (.int .i64 0) Tryd.underlying24 hi hz0 .i64 .i64 (m : Int) (m : Int) (by omega) (Int.le_refl _) (by rw [hz2]; omega) (by omega)
  simp only [hz1, Value.cells, made_rep] at h
  have e : cellsN (List.replicate m 0) = List.replicate m (Value.int .i64 0) := by simp [cellsN]
  rw [e]
  simpa using h

set_option maxHeartbeats 3200000 in
set_option maxRecDepth 100000 in
theorem read_any (s : ByteArray) (w : World) (hs : s.size < 4294967281) (h : Libs w) :
    Calls Tryd.prog 14 #[.string s] w (GivesA w (readL s.data.toList)) := by
  have hcl := cut_le s.data.toList [58, 58]
  have HR := Lib.hid (show readL s.data.toList = readP (Lib.cut s.data.toList [58, 58]).2.2 (rdGroups (Lib.cut s.data.toList [58, 58]).1) (rdGroups (Lib.cut s.data.toList [58, 58]).2.1) from rfl)
  have hL : Low w (w.alloc (.cells #[.int .u8 0, .int .u8 0, .int .u8 0, .int .u8 0, .int .u8 0, .int .u8 0, .int .u8 0, .int .u8 0, .int .u8 0, .int .u8 0, .int .u8 0, .int .u8 0, .int .u8 0, .int .u8 0, .int .u8 0, .int .u8 0] 23)) := Low.alloc w _
  have HZ : Hid (Blk (w.alloc (.cells #[.int .u8 0, .int .u8 0, .int .u8 0, .int .u8 0, .int .u8 0, .int .u8 0, .int .u8 0, .int .u8 0, .int .u8 0, .int .u8 0, .int .u8 0, .int .u8 0, .int .u8 0, .int .u8 0, .int .u8 0, .int .u8 0] 23)) 23 w.heap.size zero16) := Blk.new w _ zero16
  have HL := Lib.hid (h.low hL)
  clear h
  go_enter Tryd.func14, Tryd.ntmps14
  go_wp2_with fail
  generalize w.alloc (.cells #[.int .u8 0, .int .u8 0, .int .u8 0, .int .u8 0, .int .u8 0, .int .u8 0, .int .u8 0, .int .u8 0, .int .u8 0, .int .u8 0, .int .u8 0, .int .u8 0, .int .u8 0, .int .u8 0, .int .u8 0, .int .u8 0] 23) = w0 at *
  obtain ⟨m, hm⟩ := HL.out.maxl
  refine (Tryd.strings_Cut s ⟨#[58, 58]⟩ m w0 hs hm).mono ?_
  rintro e w1 ⟨rfl, n1, rfl⟩
  have hl : Low w0 (w0.drewN n1) := below_drewN (Below.refl _ _) n1
  replace hL := hL.trans hl
  replace HZ := Lib.hid (HZ.out.below hl HZ.out.lt)
  replace HL := Lib.hid (HL.out.low hl)
  clear hl hm
  generalize w0.drewN n1 = w1 at *
  have hz : s.data.toList.length = s.size := by simp
  rw [hz] at hcl
  generalize (Lib.cut s.data.toList [58, 58]).1 = l1 at *
  generalize (Lib.cut s.data.toList [58, 58]).2.1 = l2 at *
  generalize (Lib.cut s.data.toList [58, 58]).2.2 = sh at *
  have z1 : (⟨l1.toArray⟩ : ByteArray).size < 4294967281 := by show l1.toArray.size < _; simp; omega
  have z2 : (⟨l2.toArray⟩ : ByteArray).size < 4294967281 := by show l2.toArray.size < _; simp; omega
  clear hz hcl
  go_wp2_with fail
  refine (readGroups_any ⟨l1.toArray⟩ w1 z1 HL.out).mono ?_
  rintro e w2 ⟨A1, n1, k1, rfl, hN1, hn1, hk1, hk1m, hr1, hl⟩
  replace hL := hL.trans hl
  replace HZ := Lib.hid (HZ.out.below hl HZ.out.lt)
  replace HL := Lib.hid (HL.out.low hl)
  clear hl
  go_wp2_with fail
  refine (readGroups_any ⟨l2.toArray⟩ w2 z2 HL.out).mono ?_
  rintro e w3 ⟨A2, n2, k2, rfl, hN2, hn2, hk2, hk2m, hr2, hl⟩
  replace hL := hL.trans hl
  replace HZ := Lib.hid (HZ.out.below hl HZ.out.lt)
  replace HL := Lib.hid (HL.out.low hl)
  replace hN1 := hN1.below' hl hl.size
  clear hl z1 z2
  change Hid (readL s.data.toList = readP sh (rdGroups (⟨l1.toArray⟩ : ByteArray).data.toList) (rdGroups (⟨l2.toArray⟩ : ByteArray).data.toList)) at HR
  generalize rdGroups (⟨l1.toArray⟩ : ByteArray).data.toList = o1 at *
  generalize rdGroups (⟨l2.toArray⟩ : ByteArray).data.toList = o2 at *
  cases o1 with
  | none =>
    have HX := Lib.hid (HR.out.trans (show readP sh none o2 = none from rfl))
    simp only [Option.isSome_none]
    go_wp2_with ((refine wpList_store_addr rfl (.tmp 2) (.tmp 50) rfl w.heap.size rfl zero16 rfl _ zero16 HZ.out rfl rfl ?_); intro w6 HG hb6 hz6)
    refine bodyPost_ret (v := .tuple #[.agg (cellsB zero16).toArray, .int .i64 5]) (results_cell_tmp Tryd.results14 _ _ w.heap.size _ _ _ _ _ rfl rfl HG Tryd.underlying23 rfl (by rw [addr_size]; rfl)) rfl ?_
    rw [HX.out]
    exact ⟨rfl, Below.trans hL hb6⟩
  | some xs =>
    cases o2 with
    | none =>
      have HX := Lib.hid (HR.out.trans (show readP sh (some xs) none = none from rfl))
      simp only [Option.isSome_none, Option.isSome_some]
      go_wp2_with ((refine wpList_store_addr rfl (.tmp 2) (.tmp 50) rfl w.heap.size rfl zero16 rfl _ zero16 HZ.out rfl rfl ?_); intro w6 HG hb6 hz6)
      refine bodyPost_ret (v := .tuple #[.agg (cellsB zero16).toArray, .int .i64 5]) (results_cell_tmp Tryd.results14 _ _ w.heap.size _ _ _ _ _ rfl rfl HG Tryd.underlying23 rfl (by rw [addr_size]; rfl)) rfl ?_
      rw [HX.out]
      exact ⟨rfl, Below.trans hL hb6⟩
    | some ys =>
      simp only [Option.getD_some] at hN1 hN2 hr1 hr2
      have HR2 : Hid (readL s.data.toList = if (if sh then xs.length + ys.length ≤ 7 else xs.length + ys.length = 8) then some (ofL (xs ++ (List.replicate (8 - xs.length - ys.length) 0 ++ ys))) else none) := HR
      rw [hN1.len, hN2.len] at HR2
      simp only [Option.isSome_some]
      have h0n : n1 ≤ 9 ∧ n2 ≤ 9 := ⟨hn1, hn2⟩
      by_cases hm : (8 : Int) - n1 - n2 < 0
      · have HX := Lib.hid (HR2.out.trans (if_neg (by cases sh <;> simp <;> omega)))
        clear HR HR2
        go_wp2_with ((refine wpList_store_addr rfl (.tmp 2) (.tmp 50) rfl w.heap.size rfl zero16 rfl _ zero16 HZ.out rfl rfl ?_); intro w6 HG hb6 hz6)
        refine bodyPost_ret (v := .tuple #[.agg (cellsB zero16).toArray, .int .i64 5]) (results_cell_tmp Tryd.results14 _ _ w.heap.size _ _ _ _ _ rfl rfl HG Tryd.underlying23 rfl (by rw [addr_size]; rfl)) rfl ?_
        rw [HX.out]
        exact ⟨rfl, Below.trans hL hb6⟩
      · by_cases hp : 0 < (8 : Int) - n1 - n2
        · have hp' : (n2 : Int) < 8 - n1 := by omega
          cases sh with
          | false =>
            have HX := Lib.hid (HR2.out.trans (if_neg (by simp; omega)))
            clear HR HR2
            go_wp2_with ((refine wpList_store_addr rfl (.tmp 2) (.tmp 50) rfl w.heap.size rfl zero16 rfl _ zero16 HZ.out rfl rfl ?_); intro w6 HG hb6 hz6)
            refine bodyPost_ret (v := .tuple #[.agg (cellsB zero16).toArray, .int .i64 5]) (results_cell_tmp Tryd.results14 _ _ w.heap.size _ _ _ _ _ rfl rfl HG Tryd.underlying23 rfl (by rw [addr_size]; rfl)) rfl ?_
            rw [HX.out]
            exact ⟨rfl, Below.trans hL hb6⟩
          | true =>
            have HX := Lib.hid (HR2.out.trans (if_pos (by simp; omega)))
            clear HR HR2
            obtain ⟨m, hmm⟩ : ∃ m : Nat, m = 8 - n1 - n2 := ⟨_, rfl⟩
            rw [← hmm] at HX
            have hmi : (8 : Int) - n1 - n2 = (m : Int) := by omega
            have hm8 : m ≤ 8 := by omega
            have hsum : n1 + m + n2 = 8 := by omega
            have HMI := Lib.hid hmi
            have hmk := run_zeros m hm8
            rw [← HMI.out] at hmk
            obtain ⟨Z, hZ⟩ : ∃ Z, Z = (cellsN (List.replicate m 0)).toArray := ⟨_, rfl⟩
            rw [← hZ] at hmk
            have HZZ := Lib.hid hZ
            clear hmm hmi hZ
            go_wp2_with fail
            have hw4 : BlkN (w3.alloc (.cells Z 3)) 3 w3.heap.size (List.replicate m 0) := by rw [HZZ.out]; exact BlkN.new w3 _ _
            have hl4 := Low.alloc w3 (.cells Z 3)
            have hl5 := Low.alloc (w3.alloc (.cells Z 3)) (.cells #[.slice A1 n1 k1, .slice (some ⟨w3.heap.size, 0, none⟩) m m, .slice A2 n2 k2] 24)
            have hrow := heap_alloc_new (w3.alloc (.cells Z 3)) (.cells #[.slice A1 n1 k1, .slice (some ⟨w3.heap.size, 0, none⟩) m m, .slice A2 n2 k2] 24 (0, 0))
            rw [show (w3.alloc (.cells Z 3)).heap.size = w3.heap.size + 1 by simp] at hrow
            have hl := hl4.trans hl5
            replace hN1 := hN1.below' hl hl.size
            replace hN2 := hN2.below' hl hl.size
            have hN3 := ((hw4.below hl5 hw4.lt).bs (AllI.zeros m) (Nat.lt_of_lt_of_le hw4.lt hl5.size) (List.length_replicate ..) : Ns _ _ (some ⟨w3.heap.size, 0, none⟩) m (List.replicate m 0))
            replace hL := hL.trans hl
            replace HZ := Lib.hid (HZ.out.below hl HZ.out.lt)
            have HXL := Lib.hid hN1.len
            have HYL := Lib.hid hN2.len
            clear hw4 hl4 hl5 hl hmk
            generalize (w3.alloc (.cells Z 3)).alloc (.cells #[.slice A1 n1 k1, .slice (some ⟨w3.heap.size, 0, none⟩) m m, .slice A2 n2 k2] 24) = w5 at *
            refine (concat8 (some ⟨w3.heap.size + 1, 0, none⟩) 3 3 _ _ w5 rfl (by omega) (RowN.three hrow hN1 hN3 hN2) (by simp [HXL.out, HYL.out]; omega)).mono ?_
            rintro e w6 ⟨A6, c6, rfl, hN6, hc6, hc6m, hl⟩
            have HFL := Lib.hid (show [xs, List.replicate m 0, ys].flatten = xs ++ (List.replicate m 0 ++ ys) by simp)
            rw [HFL.out] at hN6
            replace hL := hL.trans hl
            replace HZ := Lib.hid (HZ.out.below hl HZ.out.lt)
            clear hl hrow hN1 hN2 hN3
            unfold maxLen at hc6m
            generalize xs ++ (List.replicate m 0 ++ ys) = zs at *
            go_wp2_with fail
            refine (of_any A6 8 c6 zs w6 hc6 hc6m hN6).mono ?_
            rintro e w7 ⟨rfl, hl⟩
            unfold addrV
            replace hL := hL.trans hl
            replace HZ := Lib.hid (HZ.out.below hl HZ.out.lt)
            have HO := Lib.hid (ofL_length zs)
            clear hl hN6
            generalize ofL zs = r at *
            go_wp2_with ((refine wpList_store_addr rfl (.tmp 2) (.tmp 57) rfl w.heap.size rfl r rfl _ zero16 HZ.out rfl HO.out ?_); intro w8 HG hb8 hz8)
            refine bodyPost_ret (v := .tuple #[.agg (cellsB r).toArray, .int .i64 0]) (results_cell_tmp Tryd.results14 _ _ w.heap.size _ _ _ _ _ rfl rfl HG Tryd.underlying23 rfl (by rw [addr_size]; simp [cellsB_length, HO.out])) rfl ?_
            rw [HX.out]
            exact ⟨rfl, Below.trans hL hb8⟩
        · have hp' : ¬ (n2 : Int) < 8 - n1 := by omega
          cases sh with
          | true =>
            have HX := Lib.hid (HR2.out.trans (if_neg (by simp; omega)))
            clear HR HR2
            go_wp2_with ((refine wpList_store_addr rfl (.tmp 2) (.tmp 50) rfl w.heap.size rfl zero16 rfl _ zero16 HZ.out rfl rfl ?_); intro w6 HG hb6 hz6)
            refine bodyPost_ret (v := .tuple #[.agg (cellsB zero16).toArray, .int .i64 5]) (results_cell_tmp Tryd.results14 _ _ w.heap.size _ _ _ _ _ rfl rfl HG Tryd.underlying23 rfl (by rw [addr_size]; rfl)) rfl ?_
            rw [HX.out]
            exact ⟨rfl, Below.trans hL hb6⟩
          | false =>
            have HX := Lib.hid (HR2.out.trans (if_pos (by simp; omega)))
            clear HR HR2
            obtain ⟨m, hmm⟩ : ∃ m : Nat, m = 8 - n1 - n2 := ⟨_, rfl⟩
            rw [← hmm] at HX
            have hmi : (8 : Int) - n1 - n2 = (m : Int) := by omega
            have hm8 : m ≤ 8 := by omega
            have hsum : n1 + m + n2 = 8 := by omega
            have HMI := Lib.hid hmi
            have hmk := run_zeros m hm8
            rw [← HMI.out] at hmk
            obtain ⟨Z, hZ⟩ : ∃ Z, Z = (cellsN (List.replicate m 0)).toArray := ⟨_, rfl⟩
            rw [← hZ] at hmk
            have HZZ := Lib.hid hZ
            clear hmm hmi hZ
            go_wp2_with fail
            have hw4 : BlkN (w3.alloc (.cells Z 3)) 3 w3.heap.size (List.replicate m 0) := by rw [HZZ.out]; exact BlkN.new w3 _ _
            have hl4 := Low.alloc w3 (.cells Z 3)
            have hl5 := Low.alloc (w3.alloc (.cells Z 3)) (.cells #[.slice A1 n1 k1, .slice (some ⟨w3.heap.size, 0, none⟩) m m, .slice A2 n2 k2] 24)
            have hrow := heap_alloc_new (w3.alloc (.cells Z 3)) (.cells #[.slice A1 n1 k1, .slice (some ⟨w3.heap.size, 0, none⟩) m m, .slice A2 n2 k2] 24 (0, 0))
            rw [show (w3.alloc (.cells Z 3)).heap.size = w3.heap.size + 1 by simp] at hrow
            have hl := hl4.trans hl5
            replace hN1 := hN1.below' hl hl.size
            replace hN2 := hN2.below' hl hl.size
            have hN3 := ((hw4.below hl5 hw4.lt).bs (AllI.zeros m) (Nat.lt_of_lt_of_le hw4.lt hl5.size) (List.length_replicate ..) : Ns _ _ (some ⟨w3.heap.size, 0, none⟩) m (List.replicate m 0))
            replace hL := hL.trans hl
            replace HZ := Lib.hid (HZ.out.below hl HZ.out.lt)
            have HXL := Lib.hid hN1.len
            have HYL := Lib.hid hN2.len
            clear hw4 hl4 hl5 hl hmk
            generalize (w3.alloc (.cells Z 3)).alloc (.cells #[.slice A1 n1 k1, .slice (some ⟨w3.heap.size, 0, none⟩) m m, .slice A2 n2 k2] 24) = w5 at *
            refine (concat8 (some ⟨w3.heap.size + 1, 0, none⟩) 3 3 _ _ w5 rfl (by omega) (RowN.three hrow hN1 hN3 hN2) (by simp [HXL.out, HYL.out]; omega)).mono ?_
            rintro e w6 ⟨A6, c6, rfl, hN6, hc6, hc6m, hl⟩
            have HFL := Lib.hid (show [xs, List.replicate m 0, ys].flatten = xs ++ (List.replicate m 0 ++ ys) by simp)
            rw [HFL.out] at hN6
            replace hL := hL.trans hl
            replace HZ := Lib.hid (HZ.out.below hl HZ.out.lt)
            clear hl hrow hN1 hN2 hN3
            unfold maxLen at hc6m
            generalize xs ++ (List.replicate m 0 ++ ys) = zs at *
            go_wp2_with fail
            refine (of_any A6 8 c6 zs w6 hc6 hc6m hN6).mono ?_
            rintro e w7 ⟨rfl, hl⟩
            unfold addrV
            replace hL := hL.trans hl
            replace HZ := Lib.hid (HZ.out.below hl HZ.out.lt)
            have HO := Lib.hid (ofL_length zs)
            clear hl hN6
            generalize ofL zs = r at *
            go_wp2_with ((refine wpList_store_addr rfl (.tmp 2) (.tmp 57) rfl w.heap.size rfl r rfl _ zero16 HZ.out rfl HO.out ?_); intro w8 HG hb8 hz8)
            refine bodyPost_ret (v := .tuple #[.agg (cellsB r).toArray, .int .i64 0]) (results_cell_tmp Tryd.results14 _ _ w.heap.size _ _ _ _ _ rfl rfl HG Tryd.underlying23 rfl (by rw [addr_size]; simp [cellsB_length, HO.out])) rfl ?_
            rw [HX.out]
            exact ⟨rfl, Below.trans hL hb8⟩
end Go.Proofs.YtcdeabiellefcaaDoor
