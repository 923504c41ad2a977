/- What addr.Prefix and addr.In tell. Conditions: an address is 16 bytes, numbers are ints. -/
import Derived.Test.YtcdeabiellefcaaDoorAdA
import Derived.StillTailTactics
import Derived.Laws.Tables
namespace Go.Proofs.YtcdeabiellefcaaDoor
open Go.RowKit
set_option linter.unusedVariables false

theorem Blk.setRow {w : World} {t : TypeId} {g : Nat} {ys : List Int} (h : Blk w t g ys) (zs : List Int) : Blk (w.setRow g (cellsB zs).toArray) t g zs := setRow_heap w g _ _ t _ h
theorem low_setRow (w : World) (g : Nat) (cs : Array Value) {B : Nat} (h : B ≤ g) : Below B w (w.setRow g cs) :=
  ⟨rfl, rfl, rfl, by simp, fun i hi => by
    have : i ≠ g := by omega
    simp [World.setRow, Array.getElem?_modify, Ne.symm this]⟩

/-- a whole address is stored -/
theorem wpList_store_addr {ops : Array Oper} {rest : List Oper} {o : Oper} {a : Act} {w : World} {Q : Exit → Act → World → Prop} (hgd : o.guard = none) (x y : Operand) (ho : o.op = .store 23 x y)
    (g : Nat) (hx : a.eval x = .pointer (some ⟨g, 0, none⟩)) (s : List Int) (hy : a.eval y = .agg (cellsB s).toArray) (t : TypeId) (old : List Int) (h : Blk w t g old) (ho16 : old.length = 16) (hs : s.length = 16)
    (hk : ∀ w', Blk w' t g s → Below g w w' → w'.heap.size = w.heap.size → wpList Tryd.prog ops Q rest (a.put o.dst undef) w') : wpList Tryd.prog ops Q (o :: rest) a w :=
  wpList_store_row hgd 23 x y ho g _ hx hy t _ h (by rw [addr_size]; simp [cellsB_length, hs]) (by simp [cellsB_length, ho16, hs])
    (by rw [Array.all_eq_true_iff_forall_mem]; intro v hv; exact cellsB_one s v (by simpa using hv)) (hk _ (h.setRow s) (low_setRow _ _ _ (Nat.le_refl _)) (by simp))

def zero16 : List Int := [0, 0, 0, 0, 0, 0, 0, 0, 0, 0, 0, 0, 0, 0, 0, 0]

/-- how many bits of byte i stay -/
def keepN (n : Int) (i : Nat) : Nat := min (n - 8 * i).toNat 8
/-- the first k bits of a byte -/
def pre8 (x : Int) (k : Nat) : Int := x / 2 ^ (8 - k) * 2 ^ (8 - k)
def clampN (n : Int) : Int := if n < 0 then 0 else if 128 < n then 128 else n
def prefL (s : List Int) (n : Int) : List Int := (List.range 16).map fun i => pre8 (s.getD i 0) (keepN (clampN n) i)

theorem andNot_tab : ∀ x : Fin 256, ∀ j : Fin 9, bits .andNot .u8 (x.val : Int) (255 / 2 ^ j.val) = pre8 (x.val : Int) j.val := by decide +kernel
theorem andNot_pre8 (x : Int) (j : Nat) (h0 : 0 ≤ x) (h1 : x < 256) (hj : j ≤ 8) : bits .andNot .u8 x (255 / 2 ^ j) = pre8 x j := by
  have h := andNot_tab ⟨x.toNat, by omega⟩ ⟨j, by omega⟩
  simp only [Int.toNat_of_nonneg h0] at h
  exact h
theorem prefL_length (s : List Int) (n : Int) : (prefL s n).length = 16 := by simp [prefL]
theorem prefL_getD (s : List Int) (n : Int) (k : Nat) (h : k < 16) : (prefL s n).getD k 0 = pre8 (s.getD k 0) (keepN (clampN n) k) := by
  simp [prefL, List.getD, h]
theorem pref_get (s t : List Int) (k : Nat) (hs : s.length = 16) (ht : t.length = 16) (hk : k < 16) : (cellsB (t.take k ++ s.drop k))[k]? = some (.int .u8 (s.getD k 0)) := by
  rw [cellsB_get (by simp [hs, ht]; omega)]
  congr 2
  simp only [List.getD]
  rw [List.getElem?_append_right (by simp [ht]; omega)]
  simp [ht, Nat.min_eq_left (Nat.le_of_lt hk)]
theorem pref_set (s t : List Int) (k : Nat) (hs : s.length = 16) (ht : t.length = 16) (hk : k < 16) : (t.take k ++ s.drop k).set k (t.getD k 0) = t.take (k + 1) ++ s.drop (k + 1) := by
  rw [List.set_append_right _ _ (by simp [ht]; omega), drop_at s k (by omega)]
  simp only [List.length_take, ht, Nat.min_eq_left (Nat.le_of_lt hk), Nat.sub_self, List.set_cons_zero]
  rw [List.take_succ_eq_append_getElem (show k < t.length by omega), List.append_assoc, show t.getD k 0 = t[k] by simp [List.getD, show k < t.length by omega]]
  rfl

set_option maxHeartbeats 1600000 in
set_option maxRecDepth 100000 in
theorem prefix_any (s : List Int) (n : Int) (w : World) (hs : s.length = 16) (vs : AllB s) (hn : i64ok n) :
    Calls Tryd.prog 16 #[addrV s, .int .i64 n] w fun e w' => e = .returned (addrV (prefL s n)) ∧ Below w.heap.size w w' := by
  unfold addrV
  unfold i64ok at hn
  have HS := Lib.hid hs
  clear hs
  have HB0 := Lib.hid (box_first w s zero16 23 23)
  have HB1 := Lib.hid (box_second w s zero16 23 23)
  have hL := low2 w s zero16 23 23
  obtain ⟨c, hc⟩ : ∃ c, c = clampN n := ⟨_, rfl⟩
  have hcases : (n < 0 ∧ c = 0) ∨ (¬ n < 0 ∧ ¬ n ≤ 128 ∧ c = 128) ∨ (¬ n < 0 ∧ n ≤ 128 ∧ c = n) := by
    rw [hc]; unfold clampN
    by_cases h1 : n < 0
    · exact .inl ⟨h1, if_pos h1⟩
    · by_cases h2 : 128 < n
      · exact .inr (.inl ⟨h1, by omega, by rw [if_neg h1, if_pos h2]⟩)
      · exact .inr (.inr ⟨h1, by omega, by rw [if_neg h1, if_neg h2]⟩)
  have HC := Lib.hid hc
  clear hc
  rcases hcases with ⟨hn1, hc⟩ | ⟨hn1, hn2, hc⟩ | ⟨hn1, hn2, hc⟩
  all_goals
    have HC2 := Lib.hid hc
    clear hc
    go_enter Tryd.func16, Tryd.ntmps16
    go_wp2_with fail
    go_loopw [10] (fun i wr => ∃ k : Nat, k ≤ 16 ∧ i = .int .i64 k ∧ Hid (Blk wr 23 w.heap.size ((prefL s n).take k ++ s.drop k)) ∧ Hid (Blk wr 23 (w.heap.size + 1) zero16) ∧ Below w.heap.size w wr) (fun i _ => 16 - (intOf i).toNat)
    case atStart => exact ⟨0, Nat.zero_le _, rfl, HB0, HB1, hL⟩
    case round =>
      clear HB0 HB1 hL
      obtain ⟨k, hk, rfl, HA, HZ, hB⟩ := hrel
      by_cases hlt : k < 16
      · have h0 := HA.out.cell k
        have h1 := HA.out.frozen k
        rw [pref_get s (prefL s n) k HS.out (prefL_length s n) hlt] at h0
        have HX := Lib.hid (pref_set s (prefL s n) k HS.out (prefL_length s n) hlt)
        rw [prefL_getD s n k hlt] at HX
        have hv := vs.getD k
        have hP : ∀ j : Nat, j ≤ 8 → keepN (clampN n) k = j → pre8 (s.getD k 0) (keepN (clampN n) k) = bits .andNot .u8 (s.getD k 0) (255 / 2 ^ j) := fun j hj hk => by rw [hk, andNot_pre8 _ _ hv.1 hv.2 hj]
        have HP := Lib.hid hP
        clear hP
        generalize s.getD k 0 = x at *
        have hcs : (c - 8 * k < 0 ∧ keepN (clampN n) k = 0) ∨ (¬ c - 8 * k < 0 ∧ c - 8 * k ≤ 8 ∧ keepN (clampN n) k = (c - 8 * k).toNat) ∨ (¬ c - 8 * k < 0 ∧ ¬ c - 8 * k ≤ 8 ∧ keepN (clampN n) k = 8) := by
          rw [← HC.out]; unfold keepN; omega
        rw [HC2.out] at hcs
        rcases hcs with ⟨hd, hj⟩ | ⟨hd, hd2, hj⟩ | ⟨hd, hd2, hj⟩
        all_goals
          have HK := Lib.hid (HP.out _ (by omega) hj)
          clear hj HP
          try simp only [Int.zero_sub] at hd
          try simp only [Int.zero_sub] at hd2
          first
            | omega
            | (have hd0 : 0 ≤ (k : Int) := by omega
               go_wp2
               go_still_tail 7, (by kernel_rfl)
               change wpList _ _ _ _ _ wr.drew
               have HA2 : Hid (Blk wr.drew 23 w.heap.size ((prefL s n).take k ++ s.drop k)) := HA
               have HZ2 : Hid (Blk wr.drew 23 (w.heap.size + 1) zero16) := HZ
               have hB2 : Below w.heap.size w wr.drew := hB.drew
               have c0 : wr.drew.cell? ⟨w.heap.size, k, none⟩ = some (.int .u8 x) := h0
               have c1 : wr.drew.frozen? ⟨w.heap.size, k, none⟩ = false := h1
               clear h0 h1 hB HA HZ
               generalize wr.drew = w2 at *
               go_wp2
               go_roundw
               case rel =>
                 refine ⟨k + 1, by omega, by go_num, ?_, Lib.hid (HZ2.out.far (by simp) _), hB2.setCell (Nat.le_refl _) _⟩
                 rw [← HX.out, HK.out]
                 first
                   | exact HA2.out.set_ k _
                   | (rw [show (0 - 8 * (k : Int)).toNat = (-(8 * (k : Int))).toNat by omega]; exact HA2.out.set_ k _)
                   | (rw [show (128 - 8 * (k : Int)).toNat = 128 - 8 * k by omega]; exact HA2.out.set_ k _)
               case measure => simp [intOf]; omega)
      · obtain rfl : k = 16 := by omega
        have HT := Lib.hid (show (prefL s n).take 16 ++ s.drop 16 = prefL s n by rw [List.take_of_length_le (by rw [prefL_length]; omega), List.drop_eq_nil_of_le (by rw [HS.out]; omega), List.append_nil])
        rw [HT.out] at HA
        have HPL := Lib.hid (prefL_length s n)
        clear HT
        go_wp2_with (first
          | (with_reducible refine wpList_load_addr rfl (.tmp 2) rfl w.heap.size rfl _ (prefL s n) HA.out HPL.out ?_)
          | ((with_reducible refine wpList_store_addr rfl (.tmp 4) (.tmp 27) rfl (w.heap.size + 1) rfl (prefL s n) rfl _ zero16 HZ.out rfl HPL.out ?_); intro w2 HG hb2 hz2))
        refine bodyPost_ret (v := .agg (cellsB (prefL s n)).toArray) (results_cell_row Tryd.results16 _ _ (w.heap.size + 1) _ _ _ _ rfl HG Tryd.underlying23 rfl (by rw [addr_size]; simp [cellsB_length, HPL.out])) rfl ⟨rfl, hB.trans (hb2.mono (by omega))⟩
end Go.Proofs.YtcdeabiellefcaaDoor
