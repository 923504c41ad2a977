/- What addr.Text tells. Conditions: an address is 16 bytes; the library's tables hold what its text lays. -/
import Derived.Test.YtcdeabiellefcaaDoorAdH
namespace Go.Proofs.YtcdeabiellefcaaDoor
open Go.RowKit
set_option linter.unusedVariables false

/-- the text of eight numbers, where the longest row is n long and begins at a -/
def textW (ws : List Int) (a n : Nat) : List UInt8 := if n < 2 then spellL ws else spellL (ws.take a) ++ [58, 58] ++ spellL (ws.drop (a + n))
def textL (s : List Int) : List UInt8 := textW (wordsL s) (lrN (isZ (wordsL s)) 8).1 (lrN (isZ (wordsL s)) 8).2.1
theorem words_range {s : List Int} (vs : AllB s) (i : Nat) : 0 ≤ (wordsL s).getD i 0 ∧ (wordsL s).getD i 0 < 65536 := by
  rcases Nat.lt_or_ge i 8 with h | h
  · rw [wordsL_getD s i h]
    have := vs.getD (2 * i)
    have := vs.getD (2 * i + 1)
    unfold num2
    omega
  · have e : (wordsL s).getD i 0 = 0 := by simp [List.getD, List.getElem?_eq_none (show (wordsL s).length ≤ i by rw [wordsL_length]; exact h)]
    rw [e]; omega
theorem range_allI {ws : List Int} (h : ∀ i, 0 ≤ ws.getD i 0 ∧ ws.getD i 0 < 65536) : AllI ws := fun x hx => by
  obtain ⟨i, hi, rfl⟩ := List.getElem_of_mem hx
  have := h i
  have e : ws.getD i 0 = ws[i] := by simp [List.getD, hi]
  rw [e] at this
  omega
theorem range_take {ws : List Int} (h : ∀ i, 0 ≤ ws.getD i 0 ∧ ws.getD i 0 < 65536) (a : Nat) : ∀ i, 0 ≤ (ws.take a).getD i 0 ∧ (ws.take a).getD i 0 < 65536 := fun i => by
  rcases Nat.lt_or_ge i a with hi | hi
  · have e : (ws.take a).getD i 0 = ws.getD i 0 := by simp [List.getD, hi]
    rw [e]; exact h i
  · have e : (ws.take a).getD i 0 = 0 := by simp [List.getD, List.getElem?_eq_none (show (ws.take a).length ≤ i by simp; omega)]
    rw [e]; omega
theorem range_drop {ws : List Int} (h : ∀ i, 0 ≤ ws.getD i 0 ∧ ws.getD i 0 < 65536) (a : Nat) : ∀ i, 0 ≤ (ws.drop a).getD i 0 ∧ (ws.drop a).getD i 0 < 65536 := fun i => by
  have e : (ws.drop a).getD i 0 = ws.getD (a + i) 0 := by simp [List.getD]
  rw [e]; exact h _
theorem BlkN.part {w : World} {t : TypeId} {g B : Nat} {ws : List Int} (h : BlkN w t g ws) (ha : AllI ws) (hg : g < B) (o n : Nat) (hn : o + n ≤ ws.length) : Ns w B (some ⟨g, o, none⟩) n ((ws.drop o).take n) := by
  refine ⟨by simp; omega, (ha.drop o).take n, fun _ => ⟨g, o, rfl, hg, fun i hi => ?_⟩⟩
  rw [h.cell (o + i), cellsN_get (by omega)]
  congr 2
  simp [List.getD, hi]

theorem size_int : (Tryd.prog.info? 3).map (·.size) = some 1 := by kernel_rfl
theorem run_size_int (u : World) : (sizeOf 3).run Tryd.prog u = .ok 1 u := by
  obtain ⟨i, hi, hz⟩ := info_sized size_int
  simp [sizeOf, typeInfo, hi, hz]
theorem run_cut8_all (g : Nat) (u : World) : (Instr.sliceAt 27 (.pointer (some ⟨g, 0, none⟩)) none none none).run Tryd.prog u = .ok (.slice (some ⟨g, 0, none⟩) 8 8) u := by
  rw [run_sliceAt_array_all (P := Tryd.prog) u 27 ⟨g, 0, none⟩ Tryd.underlying27]
  have hs : (sizeOf (Tryd.prog.elem 27)).run Tryd.prog u = .ok 1 u := run_size_int u
  rw [hs, Result.andThen_ok]
  rfl
theorem run_cut8_h (g a : Nat) (ha : a ≤ 8) (u : World) : (Instr.sliceAt 27 (.pointer (some ⟨g, 0, none⟩)) none (some (.int .i64 (a : Int))) none).run Tryd.prog u = .ok (.slice (some ⟨g, 0, none⟩) a 8) u := by
  rw [run_sliceAt_array_h (P := Tryd.prog) u 27 ⟨g, 0, none⟩ Tryd.underlying27 .i64 a (by omega) (by show (a : Int) ≤ ((8 : Nat) : Int); omega)]
  have hs : (sizeOf (Tryd.prog.elem 27)).run Tryd.prog u = .ok 1 u := run_size_int u
  rw [hs, Result.andThen_ok]
  show Result.ok (slicedAt ⟨g, 0, none⟩ 0 (a : Int).toNat 8 1) u = _
  unfold slicedAt
  rw [Int.toNat_natCast, if_neg (by omega), Nat.zero_mul, Addr.add_lit]
  rfl
/-- where a cut from a on begins -/
def cutAt (g a : Nat) : Nat := if 8 = a then 0 else a
theorem run_cut8_l (g a : Nat) (ha : a ≤ 8) (u : World) : (Instr.sliceAt 27 (.pointer (some ⟨g, 0, none⟩)) (some (.int .i64 (a : Int))) none none).run Tryd.prog u = .ok (.slice (some ⟨g, cutAt g a, none⟩) (8 - a) (8 - a)) u := by
  rw [run_sliceAt_array_l (P := Tryd.prog) u 27 ⟨g, 0, none⟩ Tryd.underlying27 .i64 a (by omega) (by show (a : Int) ≤ ((8 : Nat) : Int); omega)]
  have hs : (sizeOf (Tryd.prog.elem 27)).run Tryd.prog u = .ok 1 u := run_size_int u
  rw [hs, Result.andThen_ok]
  show Result.ok (slicedAt ⟨g, 0, none⟩ (a : Int).toNat 8 8 1) u = _
  unfold slicedAt cutAt
  rw [Int.toNat_natCast]
  split
  · rfl
  · rw [Nat.mul_one, Addr.add_lit, Nat.zero_add]
theorem cut_ns {w : World} {t : TypeId} {g B a : Nat} {ws : List Int} (h : BlkN w t g ws) (hl : ws.length = 8) (ha : AllI ws) (hg : g < B) (h8 : a ≤ 8) : Ns w B (some ⟨g, cutAt g a, none⟩) (8 - a) (ws.drop a) := by
  by_cases h' : 8 = a
  · subst h'
    rw [List.drop_eq_nil_of_le (by omega)]
    exact Ns.nil _ _ _
  · unfold cutAt
    rw [if_neg h']
    have := h.part ha hg a (8 - a) (by omega)
    rwa [List.take_of_length_le (by simp; omega)] at this

theorem strL_size (l : List UInt8) : (strL l).size = l.length := by simp [strL, ByteArray.size]
theorem strL_append (l m : List UInt8) : strL l ++ strL m = strL (l ++ m) := by
  apply ByteArray.ext
  simp [strL, ByteArray.data_append]

set_option maxHeartbeats 1600000 in
theorem text_any (s : List Int) (w : World) (hs : s.length = 16) (vs : AllB s) (h : Libs w) :
    Calls Tryd.prog 8 #[addrV s] w fun e w' => e = .returned (.string (strL (textL s))) ∧ Below w.heap.size w w' := by
  unfold addrV
  have HL := Lib.hid h
  have HS := Lib.hid hs
  clear h hs
  have HB0 := Lib.hid (Blk.new w 23 s)
  have hL := low1 w s 23
  go_enter Tryd.func8, Tryd.ntmps8
  go_wp2_with (with_reducible refine wpList_load_addr rfl (.tmp 1) rfl w.heap.size rfl _ s HB0.out HS.out ?_)
  clear HB0
  generalize w.alloc (.cells (cellsB s).toArray 23) = w0 at *
  refine (words_any s w0 HS.out vs).mono ?_
  rintro e w1 ⟨rfl, hl⟩
  replace hL := hL.trans hl
  clear hl
  unfold wordsV
  have HW := Lib.hid (wordsL_length s)
  have HR := Lib.hid (words_range vs)
  have HT := Lib.hid (show textL s = textW (wordsL s) (lrN (isZ (wordsL s)) 8).1 (lrN (isZ (wordsL s)) 8).2.1 from rfl)
  have hle := lrN_le (isZ (wordsL s)) 8
  generalize wordsL s = ws at *
  have HN : Hid (BlkN (w1.alloc (.cells #[.int .i64 0, .int .i64 0, .int .i64 0, .int .i64 0, .int .i64 0, .int .i64 0, .int .i64 0, .int .i64 0] 27)) 27 w1.heap.size zero8) := BlkN.new w1 27 zero8
  have hl1 := Low.alloc w1 (.cells #[.int .i64 0, .int .i64 0, .int .i64 0, .int .i64 0, .int .i64 0, .int .i64 0, .int .i64 0, .int .i64 0] 27)
  go_wp2_with (first
    | ((with_reducible refine wpList_store_words rfl (.tmp 3) (.tmp 7) rfl w1.heap.size rfl ws rfl _ zero8 HN.out rfl HW.out ?_); intro w2 HG hb2 hz2)
    | (with_reducible refine wpList_load_words rfl (.tmp 3) rfl w1.heap.size rfl _ ws HG HW.out ?_))
  have hB2 : Low w w2 := hL.trans (Below.trans (hl1.mono (Nat.le_refl _)) (hb2.mono (Nat.le_refl _)))
  have HG2 := Lib.hid HG
  clear HG hb2 hz2 hl1 HN hL
  refine (longest_any ws w2 HW.out).mono ?_
  rintro e w3 ⟨rfl, hl⟩
  replace hB2 := hB2.trans hl
  replace HG2 := Lib.hid (HG2.out.below hl HG2.out.lt)
  clear hl
  have HL3 := Lib.hid (HL.out.low hB2)
  have HA := Lib.hid (range_allI HR.out)
  generalize (lrN (isZ ws) 8).1 = a at *
  generalize (lrN (isZ ws) 8).2.1 = n at *
  generalize w1.heap.size = g at *
  by_cases h2 : n < 2
  · have HT2 := Lib.hid (HT.out.trans (if_pos h2))
    have hcut := run_cut8_all g
    have h2' : (n : Int) < 2 := by omega
    go_wp2_with fail
    have hs := spell_any (some ⟨g, 0, none⟩) 8 8 ws w3 (by omega) (by have := HG2.out.part HA.out HG2.out.lt 0 8 (by rw [HW.out]; exact Nat.le_refl _); rwa [List.drop_zero, List.take_of_length_le (by rw [HW.out]; exact Nat.le_refl _)] at this) HR.out HL3.out
    refine hs.mono ?_
    rintro e w4 ⟨rfl, hl⟩
    go_wp2
    go_ret
    exact ⟨by rw [HT2.out]; rfl, hB2.trans hl⟩
  · have HT2 := Lib.hid (HT.out.trans (if_neg h2))
    have h2' : ¬ (n : Int) < 2 := by omega
    have hle2 : a + n ≤ 8 := hle.2.2.2
    have ha8 : a ≤ 8 := hle.1
    go_wp2_with fail
    have hch := run_cut8_h g a ha8
    have hcl := run_cut8_l g (a + n) hle2
    simp only [Int.natCast_add] at hcl
    have hwr : IntKind.i64.wrap ((a : Int) + n) = (a : Int) + n := wraps_i64 _ (by omega) (by omega)
    refine wp_region_plan (.rd 0 (.rd 1 (.rd 4 (.rd 5 (.rd 6 (.rd 7 (.act 2 (.rd 3 (.act 8 (.rd 9 (.rd 10 (.done))))))))))))
      (by kernel_rfl) (by kernel_rfl) (fun _ _ d _ _ h => by cases d <;> exact h) (by kernel_rfl) ?_
    have hDR : Low w3 w3.drew := Below.drew (Below.refl _ _)
    replace hB2 := hB2.trans hDR
    replace HL3 := Lib.hid (HL3.out.low hDR)
    replace HG2 : Hid (BlkN w3.drew 27 g ws) := HG2
    clear hDR
    generalize w3.drew = w4 at *
    iterate 6 (refine walkP_read (v := _) rfl (by rfl) (by intro y hy; go_simp; try rfl) ?_; simp only [Act.put, List.setIfInBounds_toArray, List.set_cons_zero, List.set_cons_succ])
    refine walkP_act rfl (by rfl) (fun K hK => ?_)
    go_simp
    have hs := spell_any (some ⟨g, 0, none⟩) a 8 (ws.take a) w4 ha8 (by have := HG2.out.part HA.out HG2.out.lt 0 a (by rw [HW.out]; omega); rwa [List.drop_zero] at this) (range_take HR.out a) HL3.out
    refine hs.mono ?_
    rintro e w5 ⟨rfl, hl⟩
    go_simp
    refine hK _ _ hl ?_
    clear hK K hs
    replace hB2 := hB2.trans hl
    replace HG2 := Lib.hid (HG2.out.below hl HG2.out.lt)
    replace HL3 := Lib.hid (HL3.out.low hl)
    clear hl
    have l1 := spellL_length (ws.take a)
    have l2 := spellL_length (ws.drop (a + n))
    rw [List.length_take, HW.out] at l1
    rw [List.length_drop, HW.out] at l2
    have HX := Lib.hid (show strL (spellL (ws.take a)) ++ (⟨#[58, 58]⟩ : ByteArray) ++ strL (spellL (ws.drop (a + n))) = strL (textL s) by
      rw [HT2.out, ← strL_append, ← strL_append]; rfl)
    have z1 := strL_size (spellL (ws.take a))
    have z2 := strL_size (spellL (ws.drop (a + n)))
    have hz1 : ¬ 9223372036854775807 < (strL (spellL (ws.take a))).size + 2 := by omega
    have hz2 : ¬ 9223372036854775807 < (strL (spellL (ws.take a))).size + 2 + (strL (spellL (ws.drop (a + n)))).size := by omega
    clear z1 z2 l1 l2
    iterate 1 (refine walkP_read (v := _) rfl (by rfl) (by intro y hy; go_simp; try rfl) ?_; simp only [Act.put, List.setIfInBounds_toArray, List.set_cons_zero, List.set_cons_succ])
    refine walkP_act rfl (by rfl) (fun K hK => ?_)
    go_simp
    have hs := spell_any (some ⟨g, cutAt g (a + n), none⟩) (8 - (a + n)) (8 - (a + n)) (ws.drop (a + n)) w5 (by omega) (cut_ns HG2.out HW.out HA.out HG2.out.lt hle2) (range_drop HR.out (a + n)) HL3.out
    refine hs.mono ?_
    rintro e w6 ⟨rfl, hl⟩
    go_simp
    refine hK _ _ hl ?_
    clear hK K hs
    replace hB2 := hB2.trans hl
    clear hl
    iterate 2 (refine walkP_read (v := _) rfl (by rfl) (by intro y hy; go_simp; try rfl) ?_; simp only [Act.put, List.setIfInBounds_toArray, List.set_cons_zero, List.set_cons_succ])
    unfold walkP
    go_wp2
    go_ret
    exact ⟨by rw [← HX.out]; rfl, hB2⟩
end Go.Proofs.YtcdeabiellefcaaDoor
