/- What the document's own Read tells of any text. Condition: it is shorter than 2^32 - 15 bytes. -/
import Derived.Test.YtcdeabiellefcaaDoorAdO
namespace Go.Proofs.YtcdeabiellefcaaDoor
open Go.RowKit
set_option linter.unusedVariables false

theorem occ_yes {s : ByteArray} {k : Nat} (h : k + 1 < s.size) (h1 : s[k].toNat = 58) (h2 : s[k + 1].toNat = 58) : Lib.occAt s.data.toList [58, 58] k = true := by
  have e1 : s[k] = 58 := UInt8.toNat_inj.1 h1
  have e2 : s[k + 1] = 58 := UInt8.toNat_inj.1 h2
  unfold Lib.occAt
  rw [drop_byte s k (by omega), drop_byte s (k + 1) h, e1, e2]
  rfl
theorem occ_no1 {s : ByteArray} {k : Nat} (h : k < s.size) (h1 : ¬ s[k].toNat = 58) : Lib.occAt s.data.toList [58, 58] k = false := by
  unfold Lib.occAt
  rw [drop_byte s k h]
  have : (58 == s[k]) = false := by
    rw [beq_eq_false_iff_ne]
    intro e
    exact h1 (by rw [← e]; rfl)
  simp [List.isPrefixOf, this]
theorem occ_no2 {s : ByteArray} {k : Nat} (h : k + 1 < s.size) (h1 : ¬ s[k + 1].toNat = 58) : Lib.occAt s.data.toList [58, 58] k = false := by
  unfold Lib.occAt
  rw [drop_byte s k (by omega), drop_byte s (k + 1) h]
  have : (58 == s[k + 1]) = false := by
    rw [beq_eq_false_iff_ne]
    intro e
    exact h1 (by rw [← e]; rfl)
  simp [List.isPrefixOf, this]
theorem occ_end {s : ByteArray} {k : Nat} (h : s.size ≤ k + 1) : Lib.occAt s.data.toList [58, 58] k = false := by
  cases hq : Lib.occAt s.data.toList [58, 58] k with
  | false => rfl
  | true =>
    rcases Lib.occAt_room hq with h' | h'
    · simp at h'; omega
    · cases h'
theorem cut_found {s : ByteArray} {a : Nat} (h : a + 1 < s.size) (h1 : Lib.occAt s.data.toList [58, 58] a = true) (h2 : ∀ j, j < a → Lib.occAt s.data.toList [58, 58] j = false) :
    Lib.cut s.data.toList [58, 58] = (s.data.toList.take a, s.data.toList.drop (a + 2), true) := by
  have hi := Lib.index_first (by simp; omega) h1 h2
  unfold Lib.cut
  rw [hi, if_pos (by omega)]
  rfl
theorem cut_none {s : ByteArray} (h2 : ∀ j, Lib.occAt s.data.toList [58, 58] j = false) : Lib.cut s.data.toList [58, 58] = (s.data.toList, [], false) := by
  have hi := Lib.index_none (s := s.data.toList) (sub := [58, 58]) (fun j _ => h2 j)
  unfold Lib.cut
  rw [hi, if_neg (by omega)]

/-- the document's way -/
def rreadP (short : Bool) (x y : Option (List Int)) : Option (List Int) :=
  if short then
    match x, y with
    | some a, some b => if a.length + b.length ≤ 7 then some (ofL (a ++ (List.replicate (8 - a.length - b.length) 0 ++ b))) else none
    | _, _ => none
  else
    match x with
    | some a => if a.length = 8 then some (ofL a) else none
    | none => none
def rreadL (l : List UInt8) : Option (List Int) := rreadP (Lib.cut l [58, 58]).2.2 (scanG 0 0 [] (Lib.cut l [58, 58]).1) (scanG 0 0 [] (Lib.cut l [58, 58]).2.1)

def FdRel (w1 : World) (s : ByteArray) (v i : Value) (wr : World) : Prop :=
  wr = w1 ∧ ((∃ k : Nat, v = .int .i64 (-1) ∧ i = .int .i64 k ∧ k ≤ s.size ∧ ∀ j, j < k → Lib.occAt s.data.toList [58, 58] j = false) ∨
  (∃ a : Nat, v = .int .i64 a ∧ i = .int .i64 (a + 1 : Nat) ∧ a + 1 < s.size ∧ Lib.occAt s.data.toList [58, 58] a = true ∧ ∀ j, j < a → Lib.occAt s.data.toList [58, 58] j = false))

/-- eight numbers, the first k of xs laid -/
theorem lay1_set (xs : List Int) (n k : Nat) (hn : xs.length = n) (hk : k < n) (h8 : n ≤ 8) : (xs.take k ++ zero8.drop k).set k (xs.getD k 0) = xs.take (k + 1) ++ zero8.drop (k + 1) := by
  rw [List.set_append_right _ _ (by simp; omega), drop_at zero8 k (by show k < 8; omega)]
  simp only [List.length_take, hn, Nat.min_eq_left (Nat.le_of_lt hk), Nat.sub_self, List.set_cons_zero]
  rw [List.take_succ_eq_append_getElem (show k < xs.length by omega), List.append_assoc, show xs.getD k 0 = xs[k] by simp [List.getD, show k < xs.length by omega]]
  rfl
theorem zero8_drop (n : Nat) (h : n ≤ 8) : zero8.drop n = List.replicate (8 - n) 0 := by
  rw [show zero8 = List.replicate 8 0 from rfl, List.drop_replicate]
/-- eight numbers, the first k of ys laid at the end -/
def lay2 (xs ys : List Int) (n m k : Nat) : List Int := xs ++ (List.replicate (8 - n - m) 0 ++ (ys.take k ++ List.replicate (m - k) 0))
theorem lay2_start (xs ys : List Int) (n m : Nat) (h : n + m ≤ 7) : xs ++ List.replicate (8 - n) 0 = lay2 xs ys n m 0 := by
  unfold lay2
  rw [List.take_zero, List.nil_append, List.replicate_append_replicate]
  congr 2; omega
theorem lay2_length (xs ys : List Int) (n m k : Nat) (hx : xs.length = n) (hy : ys.length = m) (hk : k ≤ m) (h : n + m ≤ 7) : (lay2 xs ys n m k).length = 8 := by
  unfold lay2; simp; omega
theorem lay2_set (xs ys : List Int) (n m k : Nat) (hx : xs.length = n) (hy : ys.length = m) (hk : k < m) (h : n + m ≤ 7) : (lay2 xs ys n m k).set (8 - m + k) (ys.getD k 0) = lay2 xs ys n m (k + 1) := by
  unfold lay2
  rw [List.set_append_right _ _ (by omega), List.set_append_right _ _ (by simp; omega), List.set_append_right _ _ (by simp; omega)]
  congr 2
  rw [show m - k = (m - (k + 1)) + 1 by omega, List.replicate_succ, List.take_succ_eq_append_getElem (show k < ys.length by omega), List.append_assoc]
  congr 1
  have e : 8 - m + k - xs.length - (List.replicate (8 - n - m) (0 : Int)).length - (List.take k ys).length = 0 := by simp; omega
  rw [e, List.set_cons_zero]
  simp [List.getD, show k < ys.length by omega]
theorem lay2_end (xs ys : List Int) (n m : Nat) (hx : xs.length = n) (hy : ys.length = m) : lay2 xs ys n m m = xs ++ (List.replicate (8 - xs.length - ys.length) 0 ++ ys) := by
  unfold lay2
  rw [List.take_of_length_le (by omega), Nat.sub_self, List.replicate_zero, List.append_nil, hx, hy]

set_option maxHeartbeats 6400000 in
set_option maxRecDepth 100000 in
theorem rread_any (s : ByteArray) (w : World) (hs : s.size < 4294967281) :
    Calls Tryd.prog 15 #[.string s] w (GivesA w (rreadL s.data.toList)) := by
  have HR := Lib.hid (show rreadL s.data.toList = rreadP (Lib.cut s.data.toList [58, 58]).2.2 (scanG 0 0 [] (Lib.cut s.data.toList [58, 58]).1) (scanG 0 0 [] (Lib.cut s.data.toList [58, 58]).2.1) from rfl)
  have hL : Low w (w.alloc (.cells #[.int .u8 0, .int .u8 0, .int .u8 0, .int .u8 0, .int .u8 0, .int .u8 0, .int .u8 0, .int .u8 0, .int .u8 0, .int .u8 0, .int .u8 0, .int .u8 0, .int .u8 0, .int .u8 0, .int .u8 0, .int .u8 0] 23)) := Low.alloc w _
  have HZ : Hid (Blk (w.alloc (.cells #[.int .u8 0, .int .u8 0, .int .u8 0, .int .u8 0, .int .u8 0, .int .u8 0, .int .u8 0, .int .u8 0, .int .u8 0, .int .u8 0, .int .u8 0, .int .u8 0, .int .u8 0, .int .u8 0, .int .u8 0, .int .u8 0] 23)) 23 w.heap.size zero16) := Blk.new w _ zero16
  go_enter Tryd.func15, Tryd.ntmps15
  go_wp2_with fail
  generalize w.alloc (.cells #[.int .u8 0, .int .u8 0, .int .u8 0, .int .u8 0, .int .u8 0, .int .u8 0, .int .u8 0, .int .u8 0, .int .u8 0, .int .u8 0, .int .u8 0, .int .u8 0, .int .u8 0, .int .u8 0, .int .u8 0, .int .u8 0] 23) = w1 at *
  go_loopw [4, 5] (fun v i wr => FdRel w1 s v i wr) (fun v i _ => s.size + 1 - (intOf i).toNat)
  case atStart => exact ⟨rfl, .inl ⟨0, rfl, rfl, Nat.zero_le _, fun j hj => absurd hj (by omega)⟩⟩
  case round =>
    obtain ⟨rfl, ⟨k, rfl, rfl, hk, hno⟩ | ⟨a, rfl, rfl, ha, hoc, hno⟩⟩ := hrel
    · have HNO := Lib.hid hno
      clear hno
      by_cases hlt : k + 1 < s.size
      · have hlt' : (k : Int) + 1 < s.size := by omega
        have hks : k < s.size := by omega
        by_cases h1 : s[k].toNat = 58
        · have h1b : ((s[k].toNat : Int) == 58) = true := by rw [beq_iff_eq]; omega
          by_cases h2 : s[k + 1].toNat = 58
          · have h2b : ((s[k + 1].toNat : Int) == 58) = true := by rw [beq_iff_eq]; omega
            have HOC := Lib.hid (occ_yes hlt h1 h2)
            clear h1 h2
            go_wp2_with fail
            go_roundw
            case rel => exact ⟨rfl, .inr ⟨k, rfl, by go_num, hlt, HOC.out, HNO.out⟩⟩
            case measure => simp [intOf]; omega
          · have h2b : ((s[k + 1].toNat : Int) == 58) = false := by simp; omega
            have HOC := Lib.hid (occ_no2 hlt h2)
            clear h1 h2
            go_wp2_with fail
            go_roundw
            case rel => exact ⟨rfl, .inl ⟨k + 1, rfl, by go_num, by omega, fun j hj => by
              rcases Nat.lt_or_ge j k with h | h
              · exact HNO.out j h
              · obtain rfl : j = k := by omega
                exact HOC.out⟩⟩
            case measure => simp [intOf]; omega
        · have h1b : ((s[k].toNat : Int) == 58) = false := by simp; omega
          have HOC := Lib.hid (occ_no1 hks h1)
          clear h1
          go_wp2_with fail
          go_roundw
          case rel => exact ⟨rfl, .inl ⟨k + 1, rfl, by go_num, by omega, fun j hj => by
              rcases Nat.lt_or_ge j k with h | h
              · exact HNO.out j h
              · obtain rfl : j = k := by omega
                exact HOC.out⟩⟩
          case measure => simp [intOf]; omega
      · have hge : ¬ (k : Int) + 1 < s.size := by omega
        have HC := Lib.hid (cut_none (s := s) (fun j => by
          rcases Nat.lt_or_ge j k with h | h
          · exact HNO.out j h
          · exact occ_end (by omega)))
        rw [HC.out] at HR
        clear HC HNO
        go_wp2_with fail
        refine (groups_any s wr hs).mono ?_
        rintro e w2 ⟨A1, n1, k1, rfl, hN1, hn1, hr1, hl⟩
        replace hL := hL.trans hl
        replace HZ := Lib.hid (HZ.out.below hl HZ.out.lt)
        clear hl
        cases ho : scanG 0 0 [] s.data.toList with
        | none =>
          have HX := Lib.hid (HR.out.trans (show rreadP false (scanG 0 0 [] s.data.toList) _ = none by rw [ho]; rfl))
          clear HR ho
          simp only [Option.isSome_none]
          go_wp2_with ((refine wpList_store_addr rfl (.tmp 2) (.tmp 52) rfl w.heap.size rfl zero16 rfl _ zero16 HZ.out rfl rfl ?_); intro w6 HG hb6 hz6)
          refine bodyPost_ret (v := .tuple #[.agg (cellsB zero16).toArray, .int .i64 5]) (results_cell_tmp Tryd.results15 _ _ w.heap.size _ _ _ _ _ rfl rfl HG Tryd.underlying23 rfl (by rw [addr_size]; rfl)) rfl ?_
          rw [HX.out]
          exact ⟨rfl, Below.trans hL hb6⟩
        | some xs =>
          rw [ho] at hN1
          simp only [Option.getD_some] at hN1
          have HR2 := Lib.hid (HR.out.trans (show rreadP false (scanG 0 0 [] s.data.toList) _ = if xs.length = 8 then some (ofL xs) else none by rw [ho]; rfl))
          clear HR ho hr1
          simp only [Option.isSome_some]
          rw [hN1.len] at HR2
          by_cases h8 : n1 = 8
          · have HX := Lib.hid (HR2.out.trans (if_pos h8))
            subst h8
            clear HR2
            go_wp2_with fail
            refine (rof_any A1 8 k1 xs w2 (by omega) hN1).mono ?_
            rintro e w7 ⟨rfl, hl⟩
            unfold addrV
            replace hL := hL.trans hl
            replace HZ := Lib.hid (HZ.out.below hl HZ.out.lt)
            have HO := Lib.hid (ofL_length xs)
            clear hl hN1
            generalize ofL xs = r at *
            go_wp2_with ((refine wpList_store_addr rfl (.tmp 2) (.tmp 54) rfl w.heap.size rfl r rfl _ zero16 HZ.out rfl HO.out ?_); intro w8 HG hb8 hz8)
            refine bodyPost_ret (v := .tuple #[.agg (cellsB r).toArray, .int .i64 0]) (results_cell_tmp Tryd.results15 _ _ w.heap.size _ _ _ _ _ rfl rfl HG Tryd.underlying23 rfl (by rw [addr_size]; simp [cellsB_length, HO.out])) rfl ?_
            rw [HX.out]
            exact ⟨rfl, Below.trans hL hb8⟩
          · have HX := Lib.hid (HR2.out.trans (if_neg h8))
            have h8b : ((n1 : Int) != 8) = true := by simp; omega
            have h8c : ((n1 : Int) == 8) = false := by simp; omega
            clear HR2
            go_wp2_with ((refine wpList_store_addr rfl (.tmp 2) (.tmp 52) rfl w.heap.size rfl zero16 rfl _ zero16 HZ.out rfl rfl ?_); intro w6 HG hb6 hz6)
            refine bodyPost_ret (v := .tuple #[.agg (cellsB zero16).toArray, .int .i64 5]) (results_cell_tmp Tryd.results15 _ _ w.heap.size _ _ _ _ _ rfl rfl HG Tryd.underlying23 rfl (by rw [addr_size]; rfl)) rfl ?_
            rw [HX.out]
            exact ⟨rfl, Below.trans hL hb6⟩
    · have HC := Lib.hid (cut_found ha hoc hno)
      rw [HC.out] at HR
      clear HC hno hoc
      have hng : ¬ (a : Int) < 0 := by omega
      have ha2 : a + 2 ≤ s.size := by omega
      have ha1 : a ≤ s.size := by omega
      by_cases hend : (a : Int) + 1 + 1 < s.size
      all_goals
        go_wp2_with fail
        refine (groups_any (s.extract 0 a) wr (by rw [ByteArray.size_extract]; omega)).mono ?_
        rintro e w2 ⟨A1, n1, k1, rfl, hN1, hn1, hr1, hl⟩
        replace hL := hL.trans hl
        replace HZ := Lib.hid (HZ.out.below hl HZ.out.lt)
        clear hl
        go_wp2_with fail
        refine (groups_any (s.extract (a + 2) s.size) w2 (by rw [ByteArray.size_extract]; omega)).mono ?_
        rintro e w3 ⟨A2, n2, k2, rfl, hN2, hn2, hr2, hl⟩
        replace hL := hL.trans hl
        replace HZ := Lib.hid (HZ.out.below hl HZ.out.lt)
        replace hN1 := hN1.below' hl hl.size
        clear hl
        rw [Lib.extract_from_zero] at hN1 hr1
        rw [Lib.extract_to_end] at hN2 hr2
        simp only [Lib.extract_to_end]
        generalize scanG 0 0 [] (List.take a s.data.toList) = o1 at *
        generalize scanG 0 0 [] (List.drop (a + 2) s.data.toList) = o2 at *
        cases o1 with
        | none =>
          have HX := Lib.hid (HR.out.trans (show rreadP true none o2 = none by cases o2 <;> rfl))
          clear HR
          simp only [Option.isSome_none]
          go_wp2_with ((refine wpList_store_addr rfl (.tmp 2) (.tmp 84) rfl w.heap.size rfl zero16 rfl _ zero16 HZ.out rfl rfl ?_); intro w6 HG hb6 hz6)
          refine bodyPost_ret (v := .tuple #[.agg (cellsB zero16).toArray, .int .i64 5]) (results_cell_tmp Tryd.results15 _ _ w.heap.size _ _ _ _ _ rfl rfl HG Tryd.underlying23 rfl (by rw [addr_size]; rfl)) rfl ?_
          rw [HX.out]
          exact ⟨rfl, Below.trans hL hb6⟩
        | some xs =>
          cases o2 with
          | none =>
            have HX := Lib.hid (HR.out.trans (show rreadP true (some xs) none = none from rfl))
            clear HR
            simp only [Option.isSome_none, Option.isSome_some]
            go_wp2_with ((refine wpList_store_addr rfl (.tmp 2) (.tmp 84) rfl w.heap.size rfl zero16 rfl _ zero16 HZ.out rfl rfl ?_); intro w6 HG hb6 hz6)
            refine bodyPost_ret (v := .tuple #[.agg (cellsB zero16).toArray, .int .i64 5]) (results_cell_tmp Tryd.results15 _ _ w.heap.size _ _ _ _ _ rfl rfl HG Tryd.underlying23 rfl (by rw [addr_size]; rfl)) rfl ?_
            rw [HX.out]
            exact ⟨rfl, Below.trans hL hb6⟩
          | some ys =>
            simp only [Option.getD_some] at hN1 hN2 hr1 hr2
            have HR2 : Hid (rreadL s.data.toList = if xs.length + ys.length ≤ 7 then some (ofL (xs ++ (List.replicate (8 - xs.length - ys.length) 0 ++ ys))) else none) := HR
            simp only [Option.isSome_some]
            have HXL := Lib.hid hN1.len
            have HYL := Lib.hid hN2.len
            clear HR hr1 hr2
            by_cases h7 : n1 + n2 ≤ 7
            · have HX := Lib.hid (HR2.out.trans (if_pos (by rw [HXL.out, HYL.out]; exact h7)))
              have h7b : ¬ (7 : Int) < (n1 : Int) + n2 := by omega
              clear HR2
              have HN : Hid (BlkN (w3.alloc (.cells #[.int .i64 0, .int .i64 0, .int .i64 0, .int .i64 0, .int .i64 0, .int .i64 0, .int .i64 0, .int .i64 0] 27)) 27 w3.heap.size zero8) := BlkN.new w3 27 zero8
              have hl3 : Below w3.heap.size w3 (w3.alloc (.cells #[.int .i64 0, .int .i64 0, .int .i64 0, .int .i64 0, .int .i64 0, .int .i64 0, .int .i64 0, .int .i64 0] 27)) := Low.alloc w3 _
              go_wp2_with fail
              generalize w3.alloc (.cells #[.int .i64 0, .int .i64 0, .int .i64 0, .int .i64 0, .int .i64 0, .int .i64 0, .int .i64 0, .int .i64 0] 27) = w4 at *
              go_loopw [13] (fun i wz => ∃ k : Nat, k ≤ n1 ∧ i = .int .i64 k ∧ Hid (BlkN wz 27 w3.heap.size (xs.take k ++ zero8.drop k)) ∧ Below w3.heap.size w3 wz) (fun i _ => n1 - (intOf i).toNat)
              case atStart => exact ⟨0, Nat.zero_le _, rfl, HN, hl3⟩
              case round =>
                clear HN hl3
                obtain ⟨k, hk, rfl, HK, hB⟩ := hrel
                rename_i wz
                by_cases hlt : k < n1
                · obtain ⟨b, o, rfl, hbw, hcell⟩ := hN1.mem (by omega)
                  have h0 := hcell k hlt
                  rw [← hB.cell (p := ⟨b, o + k, none⟩) hbw] at h0
                  clear hcell
                  have HS := Lib.hid (lay1_set xs n1 k HXL.out hlt (by omega))
                  obtain ⟨y1, hy1⟩ : ∃ y, (cellsN (xs.take k ++ zero8.drop k))[k]? = some (.int .i64 y) := ⟨_, cellsN_get (by simp [HXL.out, zero8]; omega)⟩
                  have c0 := HK.out.cell k
                  rw [hy1] at c0
                  have c1 := HK.out.frozen k
                  clear hy1
                  generalize xs.getD k 0 = x at *
                  have hk8 : k < 8 := by omega
                  go_wp2_with fail
                  go_roundw
                  case rel =>
                    refine ⟨k + 1, by omega, by go_num, ?_, hB.setCell (Nat.le_refl _) _⟩
                    rw [← HS.out]
                    exact HK.out.set_ k _
                  case measure => simp [intOf]; omega
                · obtain rfl : k = n1 := by omega
                  have HT := Lib.hid (show xs.take k ++ zero8.drop k = lay2 xs ys k n2 0 by rw [List.take_of_length_le (by rw [HXL.out]; exact Nat.le_refl _), zero8_drop k (by omega)]; exact lay2_start xs ys k n2 h7)
                  rw [HT.out] at HK
                  clear HT
                  go_wp2_with fail
                  go_loopw [14] (fun i wz => ∃ q : Nat, q ≤ n2 ∧ i = .int .i64 q ∧ Hid (BlkN wz 27 w3.heap.size (lay2 xs ys k n2 q)) ∧ Below w3.heap.size w3 wz) (fun i _ => n2 - (intOf i).toNat)
                  case atStart => exact ⟨0, Nat.zero_le _, rfl, HK, hB⟩
                  case round =>
                    clear HK hB
                    obtain ⟨q, hq, rfl, HK, hB⟩ := hrel
                    by_cases hlt : q < n2
                    · obtain ⟨b, o, rfl, hbw, hcell⟩ := hN2.mem (by omega)
                      have h0 := hcell q hlt
                      rw [← hB.cell (p := ⟨b, o + q, none⟩) hbw] at h0
                      clear hcell
                      have HS := Lib.hid (lay2_set xs ys k n2 q HXL.out HYL.out hlt h7)
                      obtain ⟨y1, hy1⟩ : ∃ y, (cellsN (lay2 xs ys k n2 q))[8 - n2 + q]? = some (.int .i64 y) := ⟨_, cellsN_get (by rw [lay2_length xs ys k n2 q HXL.out HYL.out (by omega) h7]; omega)⟩
                      have c0 := HK.out.cell (8 - n2 + q)
                      rw [hy1] at c0
                      have c1 := HK.out.frozen (8 - n2 + q)
                      clear hy1
                      generalize ys.getD q 0 = x at *
                      obtain ⟨d, hd⟩ : ∃ d : Nat, d = 8 - n2 + q := ⟨_, rfl⟩
                      rw [← hd] at c0 c1 HS
                      have hd8 : d < 8 := by omega
                      have hdi : (8 : Int) - n2 + q = (d : Int) := by omega
                      clear hd
                      go_wp2_with fail
                      go_roundw
                      case rel =>
                        refine ⟨q + 1, by omega, by go_num, ?_, hB.setCell (Nat.le_refl _) _⟩
                        rw [← HS.out]
                        exact HK.out.set_ d _
                      case measure => simp [intOf]; omega
                    · obtain rfl : q = n2 := by omega
                      have HT := Lib.hid (lay2_end xs ys k q HXL.out HYL.out)
                      have HLL := Lib.hid (lay2_length xs ys k q q HXL.out HYL.out (Nat.le_refl _) h7)
                      rw [HT.out] at HK HLL
                      have HAL := Lib.hid (hN1.all.append ((AllI.zeros (8 - xs.length - ys.length)).append hN2.all))
                      clear HT
                      replace hL := Low.trans hL hB
                      replace HZ := Lib.hid (HZ.out.below hB HZ.out.lt)
                      have hcut := run_cut8_all w3.heap.size
                      generalize xs ++ (List.replicate (8 - xs.length - ys.length) 0 ++ ys) = zs at *
                      clear hB hN1 hN2
                      go_wp2_with fail
                      have hN := HK.out.part HAL.out HK.out.lt 0 8 (by rw [HLL.out]; exact Nat.le_refl _)
                      rw [List.drop_zero, List.take_of_length_le (by rw [HLL.out]; exact Nat.le_refl _)] at hN
                      refine (rof_any (some ⟨w3.heap.size, 0, none⟩) 8 8 zs _ (by omega) hN).mono ?_
                      rintro e w7 ⟨rfl, hl⟩
                      unfold addrV
                      replace hL := hL.trans hl
                      replace HZ := Lib.hid (HZ.out.below hl HZ.out.lt)
                      have HO := Lib.hid (ofL_length zs)
                      clear hl hN HK
                      generalize ofL zs = r at *
                      go_wp2_with ((refine wpList_store_addr rfl (.tmp 2) (.tmp 114) rfl w.heap.size rfl r rfl _ zero16 HZ.out rfl HO.out ?_); intro w8 HG hb8 hz8)
                      refine bodyPost_ret (v := .tuple #[.agg (cellsB r).toArray, .int .i64 0]) (results_cell_tmp Tryd.results15 _ _ w.heap.size _ _ _ _ _ rfl rfl HG Tryd.underlying23 rfl (by rw [addr_size]; simp [cellsB_length, HO.out])) rfl ?_
                      rw [HX.out]
                      exact ⟨rfl, Below.trans hL hb8⟩
            · have HX := Lib.hid (HR2.out.trans (if_neg (by rw [HXL.out, HYL.out]; exact h7)))
              have h7b : (7 : Int) < (n1 : Int) + n2 := by omega
              clear HR2
              go_wp2_with ((refine wpList_store_addr rfl (.tmp 2) (.tmp 84) rfl w.heap.size rfl zero16 rfl _ zero16 HZ.out rfl rfl ?_); intro w6 HG hb6 hz6)
              refine bodyPost_ret (v := .tuple #[.agg (cellsB zero16).toArray, .int .i64 5]) (results_cell_tmp Tryd.results15 _ _ w.heap.size _ _ _ _ _ rfl rfl HG Tryd.underlying23 rfl (by rw [addr_size]; rfl)) rfl ?_
              rw [HX.out]
              exact ⟨rfl, Below.trans hL hb6⟩
end Go.Proofs.YtcdeabiellefcaaDoor
