/- What tlv.Pad, the document's own Pad and bytes.Clone answer: bytes that are nothing; the same bytes in new memory. Conditions: the number is an int; at most 2^47 bytes. -/
import Derived.Test.YtnfiijbnfmcpjaaTlB
import Derived.Test.YtnfiijbnfmcpjaaApp2
import Derived.Lib.AppendZerosOnto
import Derived.Lib.AppendZeros
import Derived.Lib.SliceRun
namespace Go.Proofs.Ytnfiijbnfmcpjaa
open Go.RowKit
set_option linter.unusedVariables false

/-- bytes of the call's own are handed back -/
def GivesNB (w : World) (ys : List Int) (e : Ending) (w' : World) : Prop :=
  ∃ A c, e = .returned (.slice A ys.length c) ∧ OwnB 5 w' w.heap.size A ys.length c ys ∧ Below w.heap.size w w'
theorem GivesNB.of {w w' : World} {ys zs : List Int} {A : Option Addr} {n c : Nat} (hy : ys = zs) (h : OwnB 5 w' w.heap.size A n c zs) (hB : Below w.heap.size w w') : GivesNB w ys (.returned (.slice A n c)) w' := by
  subst hy
  have hl := h.len
  subst hl
  exact ⟨A, c, rfl, h, hB⟩
def lenV : Value → Nat
  | .slice _ n _ => n
  | _ => 0
theorem zeroCells_byte (k : Nat) : Builtin.zeroCells (Value.int .u8 0).cells k = (List.replicate k (Value.int .u8 0)).toArray := by
  apply Array.ext
  · simp [Builtin.zeroCells, Value.cells]
  · intro i h1 h2
    simp [Builtin.zeroCells, Value.cells, Nat.mod_one]
theorem cellsB_zeros (k : Nat) : cellsB (List.replicate k 0) = List.replicate k (.int .u8 0) := by simp [cellsB]
theorem cellsB_take (xs : List Int) (k : Nat) : (cellsB xs).take k = cellsB (xs.take k) := by simp [cellsB]

section
variable {i0 : TypeInfo} (hi : Try.prog.info? 5 = some i0) (hz0 : i0.zero = some (.int .u8 0)) (hz1 : i0.size = 1) (hz2 : i0.bytes = 1)
include hi hz0 hz1 hz2
/-- zeros behind a full row of the call's own -/
theorem run_zerosT (w : World) (g : Nat) (ys : List Int) (m k : Nat) (hm : ys.length = m) (hk : m + k ≤ 140737488355328) (ha : AllB ys) (hb : Blk w 5 g ys) (base : Nat) (hg : base ≤ g) (hgs : base ≤ w.heap.size) (ty : TypeId) :
    ∃ A c w', (Builtin.append_ #[28, 3] ty #[.slice (some ⟨g, 0, none⟩) m m, .int .i64 (k : Nat)]).run Try.prog w = .ok (.slice A (m + k) c) w' ∧ OwnB 5 w' base A (m + k) c (ys ++ List.replicate k 0) ∧ Below base w w' := by
  rcases Nat.eq_zero_or_pos k with h0 | h0
  · subst h0
    refine ⟨some ⟨g, 0, none⟩, m, w, ?_, by simpa using OwnB.ofBlk hb ha hg hm (by unfold maxLen; omega), Below.refl _ _⟩
    simp [Builtin.append_, run_underlying Try.underlying28, run_underlying Try.underlying3, sizeOf, typeInfo, hi, Builtin.lenOf, Builtin.firstCells, storeCells, asInt, asIntOf, IntKind.wrap_i64, zeroValue, hz0]
  · have hrow : (Builtin.firstCells i0.size m (.slice (some ⟨g, 0, none⟩) m m)).run Try.prog w.drew = .ok (cellsB ys).toArray w.drew :=
      run_firstCells_some w.drew i0.size m ⟨g, 0, none⟩ m m (cellsB ys) (by rw [cellsB_length, hz1]; omega) (fun j v hj => by
        rw [Addr.add_lit, Nat.zero_add]
        exact (hb.cell j).trans hj)
    have hr := Lib.run_append_grow_zeros (P := Try.prog) w 28 3 ty 5 i0 (.int .u8 0) .i64 .i64 Try.underlying28 Try.underlying3 hi hz0 (some ⟨g, 0, none⟩) m m (cellsB ys) hrow k h0 (by omega) (by omega) (by omega) (by rw [hz2]; omega)
      (growslice_fits (by omega) (by rw [hz2]; omega))
    have hge := grownCap_ge w (m + k) m 5
    have hle := grownCap_le_maxLen w (m + k) m 5 (by unfold maxLen; omega)
    refine ⟨_, _, _, hr, ⟨⟨?_, .inr ⟨w.heap.size, grownCap w (m + k) m 5, _, rfl, hgs, heap_alloc_new w.drew _, hge, hle, ?_, ?_⟩⟩, ha.append (zeros_all k)⟩, ((Below.refl _ _).drew).alloc hgs _⟩
    · rw [cellsB_length, List.length_append, List.length_replicate]; omega
    · simp only [Array.size_append, zeroCells_byte, List.size_toArray, cellsB_length, List.length_replicate]
      have := hge
      omega
    · rw [zeroCells_byte, zeroCells_byte, ← cellsB_zeros, ← cellsB_zeros]
      simp only [List.append_toArray, ← cellsB_append]
      rw [cellsB_take]
      congr 1
      exact List.take_left' (by simp; omega)
end

set_option maxRecDepth 100000 in
set_option maxHeartbeats 1600000 in
theorem tlpad_any (x : Int) (w : World) (hx : i64ok x) : Calls Try.prog 39 #[.int .i64 x] w (GivesNB w (padT x)) := by
  obtain ⟨i0, hi, hz0, hz1, hz2⟩ := info_parts info5
  unfold i64ok at hx
  by_cases h1 : x < 1
  · have HP := Lib.hid (show padT x = [] by unfold padT; rw [show min x.toNat 257 = 0 by omega]; rfl)
    go_enter Try.func39, Try.ntmps39
    go_wp2_with fail
    go_ret
    exact GivesNB.of HP.out (OwnB.none_ _ _ _) (Below.refl _ _)
  · by_cases h2 : x = 1
    · subst h2
      go_enter Try.func39, Try.ntmps39
      go_wp2_with fail
      go_ret
      exact GivesNB.of (show padT 1 = [0] from rfl) (OwnB.ofBlk (Blk.new w 5 [0]) (.cons (by omega) (by omega) .nil) (Nat.le_refl _) rfl (by unfold maxLen; omega)) (Low.alloc _ _)
    · obtain ⟨k, hk, hk2, hk3⟩ : ∃ k : Nat, padT x = [4, (k : Int)] ++ List.replicate k 0 ∧ k ≤ 255 ∧ ((x ≤ 257 ∧ x = (k : Int) + 2) ∨ (257 < x ∧ k = 255)) := by
        refine ⟨min (x.toNat - 2) 255, ?_, by omega, by omega⟩
        unfold padT
        rw [show min x.toNat 257 = min (x.toNat - 2) 255 + 2 by omega]
        rfl
      have h2b : (x == 1) = false := by simpa using h2
      have HP := Lib.hid hk
      have hbk := Blk.new w 5 [4, (k : Int)]
      obtain ⟨A, c, w', hr, hown, hB⟩ := run_zerosT hi hz0 hz1 hz2 (w.alloc (.cells (cellsB [4, (k : Int)]).toArray 5)) w.heap.size [4, (k : Int)] 2 k rfl (by omega) (.cons (by omega) (by omega) (.cons (by omega) (by omega) .nil)) hbk w.heap.size (Nat.le_refl _) (by simp) 28
      have HO := Lib.hid hown
      have HB := Lib.hid (((Below.refl _ w).alloc (Nat.le_refl _) _).trans hB)
      replace hr : (Builtin.append_ #[28, 3] 28 #[.slice (some ⟨w.heap.size, 0, none⟩) 2 2, .int .i64 (k : Nat)]).run Try.prog (w.alloc (.cells #[.int .u8 4, .int .u8 k] 5)) = .ok (.slice A (2 + k) c) w' := hr
      have HR := Lib.hid hr
      clear hr hown hB hbk hk hi hz0 hz1 hz2 h2
      rcases hk3 with ⟨h3, rfl⟩ | ⟨h3, rfl⟩
      · have hm : ((k : Int) + 2 - 2) = k := by omega
        have hkb : (k : Int) % 256 = k := by omega
        go_enter Try.func39, Try.ntmps39
        go_wp2_with (at_builtin; refine Lib.wpList_append_run _ rfl _ _ _ _ rfl _ _ rfl rfl _ _ HR.out ?_)
        go_ret
        exact GivesNB.of HP.out HO.out HB.out
      · go_enter Try.func39, Try.ntmps39
        go_wp2_with (at_builtin; refine Lib.wpList_append_run _ rfl _ _ _ _ rfl _ _ rfl rfl _ _ HR.out ?_)
        go_ret
        exact GivesNB.of HP.out HO.out HB.out

set_option maxRecDepth 100000 in
set_option maxHeartbeats 1600000 in
theorem clone_any (A : Option Addr) (n c : Nat) (xs : List Int) (w : World) (hn : n ≤ 140737488355328) (hb : Bs w w.heap.size A n xs) : Calls Try.prog 37 #[.slice A n c] w (GivesNB w xs) := by
  obtain ⟨i0, hi, hz0, hz1, hz2⟩ := info_parts info5
  cases A with
  | none =>
    obtain rfl : n = 0 := by
      rcases Nat.eq_zero_or_pos n with h | h
      · exact h
      · obtain ⟨_, _, e, _⟩ := hb.mem h; cases e
    obtain rfl : xs = [] := List.eq_nil_of_length_eq_zero hb.len
    have hnil : (binOp .eql 28 (.slice none 0 c) (.slice none 0 0)).run Try.prog w = .ok (.bool true) w := Lib.run_eql_slice_nil w 28 5 none 0 c 0 0 Try.underlying28
    clear hb hi hz0 hz1 hz2
    go_enter Try.func37, Try.ntmps37
    go_wp2_with fail
    go_ret
    exact GivesNB.of (ys := []) (zs := []) rfl (OwnB.none_ _ _ _) (Below.refl _ _)
  | some ad =>
    have hl := Low.alloc w (.cells #[] 5)
    have hO := OwnB.fresh (base := w.heap.size) w 5 (Nat.le_refl _)
    have hb1 := hb.below hl
    have HLT := Lib.hid hO.lt
    have HL := Lib.hid hl
    have hnil : (binOp .eql 28 (.slice (some ad) n c) (.slice none 0 0)).run Try.prog w = .ok (.bool false) w := Lib.run_eql_slice_nil w 28 5 (some ad) n c 0 0 Try.underlying28
    clear hb hl
    go_enter Try.func37, Try.ntmps37
    go_wp2_with (at_builtin; refine wpList_append_bs rfl _ _ 28 rfl w.heap.size 5 i0 Try.underlying28 hi hz0 hz1 hz2 _ 0 0 [] rfl hO _ n c w.heap.size xs rfl hb1 (by omega) (by simp) ?_; intro A2 c2 w1 hown hgr hob; refine Hid.out ?_)
    refine Lib.hid ?_
    have HOW := Lib.hid hown
    have HB2 := Lib.hid (HL.out.grown hgr (by simp) fun x e => (HLT.out x e).1)
    clear hown hgr hob hO hb1
    go_wp2_with fail
    go_ret
    have h := HOW.out
    rw [Nat.zero_add, List.nil_append] at h
    exact GivesNB.of rfl h HB2.out

set_option maxRecDepth 100000 in
set_option maxHeartbeats 1600000 in
theorem rtlpad_any (x : Int) (w : World) (hx : i64ok x) : Calls Try.prog 35 #[.int .i64 x] w (GivesNB w (padT x)) := by
  obtain ⟨i0, hi, hz0, hz1, hz2⟩ := info_parts info5
  unfold i64ok at hx
  by_cases h1 : x < 1
  · have HP := Lib.hid (show padT x = [] by unfold padT; rw [show min x.toNat 257 = 0 by omega]; rfl)
    go_enter Try.func35, Try.ntmps35
    go_wp2_with fail
    go_ret
    exact GivesNB.of HP.out (OwnB.none_ _ _ _) (Below.refl _ _)
  · by_cases h2 : x = 1
    · subst h2
      go_enter Try.func35, Try.ntmps35
      go_wp2_with fail
      go_ret
      exact GivesNB.of (show padT 1 = [0] from rfl) (OwnB.ofBlk (Blk.new w 5 [0]) (.cons (by omega) (by omega) .nil) (Nat.le_refl _) rfl (by unfold maxLen; omega)) (Low.alloc _ _)
    · have h2b : (x == 1) = false := by simpa using h2
      obtain ⟨k, hk, hk2, hk3⟩ : ∃ k : Nat, padT x = [4, (k : Int)] ++ List.replicate k 0 ∧ k ≤ 255 ∧ ((x ≤ 257 ∧ x = ((k + 2 : Nat) : Int)) ∨ (257 < x ∧ k = 255)) := by
        refine ⟨min (x.toNat - 2) 255, ?_, by omega, by omega⟩
        unfold padT
        rw [show min x.toNat 257 = min (x.toNat - 2) 255 + 2 by omega]
        rfl
      have HP := Lib.hid hk
      have hbk := OwnB.ofBlk (base := w.heap.size) (Blk.new w 5 [4, (k : Int)]) (.cons (by omega) (by omega) (.cons (by omega) (by omega) .nil)) (Nat.le_refl _) (n := 2) rfl (by unfold maxLen; omega)
      have hB0 := Low.alloc w (.cells (cellsB [4, (k : Int)]).toArray 5)
      have HO0 := Lib.hid hbk
      have HB0 := Lib.hid hB0
      have hkb : (k : Int) % 256 = k := by omega
      clear hbk hB0 hk h2
      rcases hk3 with ⟨h3, rfl⟩ | ⟨h3, rfl⟩
      · go_enter Try.func35, Try.ntmps35
        go_wp2_with fail
        go_loopw [3] (fun v wr => ∃ A c j, j ≤ k ∧ v = .slice A (2 + j) c ∧ OwnB 5 wr w.heap.size A (2 + j) c ([4, (k : Int)] ++ List.replicate j 0) ∧ Below w.heap.size w wr) (fun v _ => k + 2 - lenV v)
        case atStart => exact ⟨_, _, 0, Nat.zero_le _, rfl, HO0.out, HB0.out⟩
        case round =>
          obtain ⟨A, c, j, hj, rfl, hown, hB⟩ := hrel
          by_cases hjk : j = k
          · subst hjk
            have HOW := Lib.hid hown
            clear hown
            go_wp2_with fail
            go_ret
            exact GivesNB.of HP.out HOW.out hB
          · have hjl : j < k := by omega
            have hsz := hB.size
            have hlt := hown.lt
            have hl := Low.alloc wr (.cells #[.int .u8 0] 5)
            have hown0 := hown.below hl
            have hsrc : Bs (wr.alloc (.cells #[.int .u8 0] 5)) (wr.heap.size + 1) (some ⟨wr.heap.size, 0, none⟩) 1 [0] := (Blk.new wr 5 [0]).bs (.cons (by omega) (by omega) .nil) (by omega) rfl
            have HB := Lib.hid (hB.trans (hl.mono hsz))
            clear hown hl hB
            go_wp2_with (at_builtin; refine wpList_append_bs rfl _ _ 28 rfl w.heap.size 5 i0 Try.underlying28 hi hz0 hz1 hz2 A (2 + j) c ([4, (k : Int)] ++ List.replicate j 0) rfl hown0 _ 1 1 (wr.heap.size + 1) [0] rfl hsrc (by omega) (by simp only [World.size_alloc]; omega) ?_; intro A2 c2 w1 hown hgr hob; refine Hid.out ?_)
            refine Lib.hid ?_
            have HOW := Lib.hid hown
            have HB2 := Lib.hid (HB.out.grown hgr (by simp only [World.size_alloc]; omega) fun x e => (hlt x e).1)
            clear hown hgr hob hsrc hown0
            go_wp2_with fail
            go_roundw
            case rel =>
              refine ⟨A2, c2, j + 1, by omega, rfl, ?_, HB2.out⟩
              rw [List.replicate_succ', ← List.append_assoc]
              exact HOW.out
            case measure => simp only [lenV]; omega
      · go_enter Try.func35, Try.ntmps35
        go_wp2_with fail
        go_loopw [3] (fun v wr => ∃ A c j, j ≤ 255 ∧ v = .slice A (2 + j) c ∧ OwnB 5 wr w.heap.size A (2 + j) c ([4, (255 : Int)] ++ List.replicate j 0) ∧ Below w.heap.size w wr) (fun v _ => 255 + 2 - lenV v)
        case atStart => exact ⟨_, _, 0, Nat.zero_le _, rfl, HO0.out, HB0.out⟩
        case round =>
          obtain ⟨A, c, j, hj, rfl, hown, hB⟩ := hrel
          by_cases hjk : j = 255
          · subst hjk
            have HOW := Lib.hid hown
            clear hown
            go_wp2_with fail
            go_ret
            exact GivesNB.of HP.out HOW.out hB
          · have hjl : j < 255 := by omega
            have hsz := hB.size
            have hlt := hown.lt
            have hl := Low.alloc wr (.cells #[.int .u8 0] 5)
            have hown0 := hown.below hl
            have hsrc : Bs (wr.alloc (.cells #[.int .u8 0] 5)) (wr.heap.size + 1) (some ⟨wr.heap.size, 0, none⟩) 1 [0] := (Blk.new wr 5 [0]).bs (.cons (by omega) (by omega) .nil) (by omega) rfl
            have HB := Lib.hid (hB.trans (hl.mono hsz))
            clear hown hl hB
            go_wp2_with (at_builtin; refine wpList_append_bs rfl _ _ 28 rfl w.heap.size 5 i0 Try.underlying28 hi hz0 hz1 hz2 A (2 + j) c ([4, (255 : Int)] ++ List.replicate j 0) rfl hown0 _ 1 1 (wr.heap.size + 1) [0] rfl hsrc (by omega) (by simp only [World.size_alloc]; omega) ?_; intro A2 c2 w1 hown hgr hob; refine Hid.out ?_)
            refine Lib.hid ?_
            have HOW := Lib.hid hown
            have HB2 := Lib.hid (HB.out.grown hgr (by simp only [World.size_alloc]; omega) fun x e => (hlt x e).1)
            clear hown hgr hob hsrc hown0
            go_wp2_with fail
            go_roundw
            case rel =>
              refine ⟨A2, c2, j + 1, by omega, rfl, ?_, HB2.out⟩
              rw [List.replicate_succ', ← List.append_assoc]
              exact HOW.out
            case measure => simp only [lenV]; omega
end Go.Proofs.Ytnfiijbnfmcpjaa
