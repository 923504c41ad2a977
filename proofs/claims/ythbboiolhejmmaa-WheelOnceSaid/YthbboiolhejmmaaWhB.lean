/- Stage 23: the document's Without, Set and Due. Condition: at most 1000 timers. -/
import Derived.Test.YthbboiolhejmmaaWhA
import Derived.Test.YthbboiolhejmmaaSlB
set_option maxRecDepth 100000
namespace Go.Proofs.Ythbboiolhejmmaa
open Go.RowKit
set_option linter.unusedVariables false

theorem info_tm : (Try.prog.info? 29).map (fun i => (i.zero, i.size, i.bytes)) = some (some (.agg #[.int .i64 0, .int .i64 0]), 2, 16) := by kernel_rfl
theorem info_tm_parts : ∃ i, Try.prog.info? 29 = some i ∧ i.zero = some (.agg #[.int .i64 0, .int .i64 0]) ∧ i.size = 2 ∧ i.bytes = 16 := by
  have h := info_tm
  cases hi : Try.prog.info? 29 with
  | none => simp [hi] at h
  | some i =>
    simp [hi] at h
    exact ⟨i, rfl, h.1, h.2.1, h.2.2⟩
theorem tm_size : (Try.prog.info? 29).map (·.size) = some 2 := by kernel_rfl
theorem getD_ok2 {w : World} {B n : Nat} {A : Option Addr} {l : List (Int × Int)} (h : Es prE w B A n l) (i : Nat) : i64ok (l.getD i (0, 0)).1 ∧ i64ok (l.getD i (0, 0)).2 := Elt.all_getD (E := prE) h.all i

set_option maxHeartbeats 3200000 in
theorem rwithout_any (A : Option Addr) (n c : Nat) (l : List (Int × Int)) (id : Int) (w : World) (hn : n ≤ 1000) (hb : Es prE w w.heap.size A n l) :
    Calls Try.prog 11 #[.slice A n c, .int .i64 id] w fun e w' => ∃ A' c', e = .returned (.slice A' (outS l id).length c') ∧ OwnE prE 29 w' w.heap.size A' (outS l id).length c' (outS l id) ∧ Low w w' := by
  have HL := Lib.hid hb.len
  have HB := Lib.hid hb
  obtain ⟨i0, ji, jz0, jz1, jz2⟩ := info_tm_parts
  have HI := Lib.hid ji
  have HZ0 := Lib.hid jz0
  have HZ1 := Lib.hid jz1
  have HZ2 := Lib.hid jz2
  clear hb ji jz0 jz1 jz2
  go_enter Try.func11, Try.ntmps11
  go_wp2_with fail
  go_loopw [5, 6] (fun v5 v6 wr => ∃ (i : Nat) (A' : Option Addr) (c' : Nat) (out : List (Int × Int)), i ≤ n ∧ v6 = .int .i64 i ∧ v5 = .slice A' out.length c' ∧ Hid (out = outS (l.take i) id) ∧ Hid (OwnE prE 29 wr w.heap.size A' out.length c' out) ∧ Hid (Es prE wr w.heap.size A n l) ∧ Hid (Low w wr)) (fun _ v _ => n - (intOf v).toNat)
  case atStart => exact ⟨0, none, 0, [], by omega, rfl, rfl, Lib.hid rfl, Lib.hid (OwnE.none_ _ _ _ _), HB, Lib.hid (Low.refl _)⟩
  case round =>
    clear HB
    obtain ⟨i, A', c', out, hi, rfl, rfl, HO, HW, HB, hL⟩ := hrel
    by_cases hlt : i < n
    · obtain ⟨b, o, rfl, hbb, _⟩ := HB.out.mem (by omega)
      have hlt2 : (i : Int) < n := by omega
      obtain ⟨c0, c1⟩ := pr_cells HB.out hlt
      have HXO := Lib.hid (getD_ok2 HB.out i)
      have HT := Lib.hid (outS_take l id i (by rw [HL.out]; exact hlt))
      rw [← HO.out] at HT
      have hlo : out.length ≤ 1000 := by
        have h1 := outS_len2 (l.take i) id
        rw [← HO.out, List.length_take, HL.out] at h1
        omega
      obtain ⟨x, hx⟩ : ∃ x, x = l.getD i (0, 0) := ⟨_, rfl⟩
      rw [← hx] at c0 c1 HXO HT
      obtain ⟨y, z⟩ := x
      dsimp only at c0 c1
      replace hx := Lib.hid hx
      by_cases hyx : y = id
      · rw [if_pos hyx] at HT
        have hyx2 : (y != id) = false := by simpa using hyx
        replace hyx := Lib.hid hyx
        go_wp2_with fail
        go_roundw
        case rel => exact ⟨i + 1, A', c', out, by omega, by go_num, rfl, Lib.hid HT.out.symm, HW, HB, hL⟩
        case measure => simp [intOf]; omega
      · rw [if_neg hyx] at HT
        have hyx2 : (y != id) = true := by simpa using hyx
        have hE2 : Es prE (wr.alloc (.cells #[.int .i64 y, .int .i64 z] 29)) (wr.heap.size + 1) (some ⟨wr.heap.size, 0, none⟩) 1 [(y, z)] := Es.one_ (E := prE) wr 29 (y, z) HXO.out (Nat.lt_succ_self _)
        have hlA := Low.alloc wr (.cells #[.int .i64 y, .int .i64 z] 29)
        have hO3 := HW.out.below hlA
        have HB3 := Lib.hid (HB.out.below (hlA.mono hL.out.size))
        have HL3 := Lib.hid (Below.trans hL.out (hlA.mono hL.out.size))
        have hb5 : w.heap.size ≤ (wr.alloc (.cells #[.int .i64 y, .int .i64 z] 29)).heap.size := by have := hL.out.size; simp; omega
        clear hlA HW HB hL
        replace hyx := Lib.hid hyx
        go_wp2_with (at_builtin; refine wpList_append_es (E := prE) rfl _ _ _ rfl w.heap.size 29 i0 _ 16 Try.underlying25 HI.out HZ0.out HZ1.out rfl HZ2.out _ out.length c' out rfl hO3 _ 1 1 (wr.heap.size + 1) [(y, z)] rfl hE2 (by omega) (by omega) hb5 ?_; intro A4 c4 w4 hO4 hg4 hb4; refine Hid.out ?_)
        refine Lib.hid ?_
        have HL4 := Lib.hid (show Low w w4 from Below.grown HL3.out hg4 hb5 (fun j hj => (hO3.lt j hj).1))
        have HB4 := Lib.hid (HB3.out.keep (w' := w4) fun p hp => World.cell?_of_block (hg4.block p.block (by omega) (fun e => by have := (hO3.lt _ e.symm).1; omega)))
        have HO4 := Lib.hid (show OwnE prE 29 w4 w.heap.size A4 (out ++ [(y, z)]).length c4 (out ++ [(y, z)]) by rw [List.length_append]; exact hO4)
        clear hO4 hg4 hb4 hO3 HB3 HL3 hE2 hb5
        go_wp2_with fail
        go_roundw
        case rel => exact ⟨i + 1, A4, c4, out ++ [(y, z)], by omega, by go_num, by rw [List.length_append]; rfl, Lib.hid HT.out.symm, HO4, HB4, HL4⟩
        case measure => simp [intOf]; omega
    · obtain rfl : i = n := by omega
      rw [List.take_of_length_le (by rw [HL.out]; exact Nat.le_refl _)] at HO
      go_wp2_with fail
      go_ret
      rw [← HO.out]
      exact ⟨A', c', rfl, HW.out, hL.out⟩

set_option maxHeartbeats 3200000 in
theorem rsetW_any (A : Option Addr) (n c : Nat) (l : List (Int × Int)) (now id at_ : Int) (w : World) (hn : n ≤ 1000) (hnow : 0 ≤ now ∧ now ≤ 1000000) (hid : i64ok id) (hat : i64ok at_) (hb : Es prE w w.heap.size A n l) :
    Calls Try.prog 9 #[.slice A n c, .int .i64 now, .int .i64 id, .int .i64 at_] w fun e w' => ∃ A' c', e = .returned (.slice A' (setW l now id at_).length c') ∧ OwnE prE 29 w' w.heap.size A' (setW l now id at_).length c' (setW l now id at_) ∧ Low w w' := by
  have HL := Lib.hid hb.len
  have HW := Lib.hid (rwithout_any A n c l id w hn hb)
  have HLE := Lib.hid (show (outS l id).length ≤ 1000 by have := outS_len2 l id; rw [HL.out] at this; omega)
  have HT := Lib.hid (show setW l now id at_ = outS l id ++ [(id, atW now at_)] from rfl)
  obtain ⟨i0, ji, jz0, jz1, jz2⟩ := info_tm_parts
  have HI := Lib.hid ji
  have HZ0 := Lib.hid jz0
  have HZ1 := Lib.hid jz1
  have HZ2 := Lib.hid jz2
  have HOK := Lib.hid (show i64ok (atW now at_) by unfold atW i64ok at *; split <;> omega)
  have HID := Lib.hid hid
  have HA0 := Lib.hid (show at_ ≤ now → atW now at_ = now + 1 from fun h => if_pos h)
  have HA1 := Lib.hid (show ¬ at_ ≤ now → atW now at_ = at_ from fun h => if_neg h)
  clear hb ji jz0 jz1 jz2 hat hid
  generalize outS l id = out at *
  obtain ⟨z, hz⟩ : ∃ z, z = atW now at_ := ⟨_, rfl⟩
  rw [← hz] at HT HOK HA0 HA1
  replace hz := Lib.hid hz
  by_cases hle : at_ ≤ now
  · obtain rfl := HA0.out hle
    clear HA0 HA1
    go_enter Try.func9, Try.ntmps9
    go_wp2_with fail
    refine HW.out.mono ?_
    rintro e w2 ⟨A2, c2, rfl, hO2, hl2⟩
    have hE2 : Es prE (w2.alloc (.cells #[.int .i64 id, .int .i64 (now + 1)] 29)) (w2.heap.size + 1) (some ⟨w2.heap.size, 0, none⟩) 1 [(id, now + 1)] := Es.one_ (E := prE) w2 29 (id, now + 1) ⟨HID.out, HOK.out⟩ (Nat.lt_succ_self _)
    have hlA := Low.alloc w2 (.cells #[.int .i64 id, .int .i64 (now + 1)] 29)
    have hO3 := hO2.below hlA
    have HL3 := Lib.hid (Below.trans hl2 (hlA.mono hl2.size))
    have hb5 : w.heap.size ≤ (w2.alloc (.cells #[.int .i64 id, .int .i64 (now + 1)] 29)).heap.size := by have := hl2.size; simp; omega
    have hlo := HLE.out
    clear hlA hO2 hl2
    go_wp2_with (at_builtin; refine wpList_append_es (E := prE) rfl _ _ _ rfl w.heap.size 29 i0 _ 16 Try.underlying25 HI.out HZ0.out HZ1.out rfl HZ2.out _ out.length c2 out rfl hO3 _ 1 1 (w2.heap.size + 1) [(id, now + 1)] rfl hE2 (by omega) (by omega) hb5 ?_; intro A4 c4 w4 hO4 hg4 hb4; refine Hid.out ?_)
    refine Lib.hid ?_
    have HL4 := Lib.hid (show Low w w4 from Below.grown HL3.out hg4 hb5 (fun j hj => (hO3.lt j hj).1))
    have hln : out.length + 1 = (setW l now id at_).length := by rw [HT.out, List.length_append]; rfl
    rw [← HT.out, hln] at hO4
    have HO4 := Lib.hid hO4
    have HLN := Lib.hid hln
    clear hO4 hg4 hb4 hO3 HL3 hE2 hb5 hln
    go_wp2_with fail
    go_ret
    rw [← HLN.out] at HO4 ⊢
    exact ⟨A4, c4, rfl, HO4.out, HL4.out⟩
  · obtain rfl := HA1.out hle
    clear HA0 HA1
    go_enter Try.func9, Try.ntmps9
    go_wp2_with fail
    refine HW.out.mono ?_
    rintro e w2 ⟨A2, c2, rfl, hO2, hl2⟩
    have hE2 : Es prE (w2.alloc (.cells #[.int .i64 id, .int .i64 z] 29)) (w2.heap.size + 1) (some ⟨w2.heap.size, 0, none⟩) 1 [(id, z)] := Es.one_ (E := prE) w2 29 (id, z) ⟨HID.out, HOK.out⟩ (Nat.lt_succ_self _)
    have hlA := Low.alloc w2 (.cells #[.int .i64 id, .int .i64 z] 29)
    have hO3 := hO2.below hlA
    have HL3 := Lib.hid (Below.trans hl2 (hlA.mono hl2.size))
    have hb5 : w.heap.size ≤ (w2.alloc (.cells #[.int .i64 id, .int .i64 z] 29)).heap.size := by have := hl2.size; simp; omega
    have hlo := HLE.out
    clear hlA hO2 hl2
    go_wp2_with (at_builtin; refine wpList_append_es (E := prE) rfl _ _ _ rfl w.heap.size 29 i0 _ 16 Try.underlying25 HI.out HZ0.out HZ1.out rfl HZ2.out _ out.length c2 out rfl hO3 _ 1 1 (w2.heap.size + 1) [(id, z)] rfl hE2 (by omega) (by omega) hb5 ?_; intro A4 c4 w4 hO4 hg4 hb4; refine Hid.out ?_)
    refine Lib.hid ?_
    have HL4 := Lib.hid (show Low w w4 from Below.grown HL3.out hg4 hb5 (fun j hj => (hO3.lt j hj).1))
    have hln : out.length + 1 = (setW l now id z).length := by rw [HT.out, List.length_append]; rfl
    rw [← HT.out, hln] at hO4
    have HO4 := Lib.hid hO4
    have HLN := Lib.hid hln
    clear hO4 hg4 hb4 hO3 HL3 hE2 hb5 hln
    go_wp2_with fail
    go_ret
    rw [← HLN.out] at HO4 ⊢
    exact ⟨A4, c4, rfl, HO4.out, HL4.out⟩
end Go.Proofs.Ythbboiolhejmmaa
