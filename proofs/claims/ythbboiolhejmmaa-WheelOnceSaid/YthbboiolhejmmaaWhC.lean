/- Stage 23: the document's Due. Condition: at most 1000 timers. -/
import Derived.Test.YthbboiolhejmmaaWhB
import Derived.Test.YthbboiolhejmmaaNumG
set_option maxRecDepth 100000
namespace Go.Proofs.Ythbboiolhejmmaa
open Go.RowKit
set_option linter.unusedVariables false

set_option maxHeartbeats 6400000 in
theorem rdueW_any (A : Option Addr) (n c : Nat) (l : List (Int × Int)) (now : Int) (w : World) (hn : n ≤ 1000) (hnow : 0 ≤ now ∧ now ≤ 1000000) (hb : Es prE w w.heap.size A n l) :
    Calls Try.prog 12 #[.slice A n c, .int .i64 now] w fun e w' => ∃ A1 c1 A2 c2, e = .returned (.tuple #[.slice A1 (dueW l now).length c1, .slice A2 (restW l now).length c2]) ∧
      OwnN 3 w' w.heap.size A1 (dueW l now).length c1 (dueW l now) ∧ OwnE prE 29 w' w.heap.size A2 (restW l now).length c2 (restW l now) ∧ Low w w' := by
  have HL := Lib.hid hb.len
  have HB := Lib.hid hb
  obtain ⟨i0, ji, jz0, jz1, jz2⟩ := info_tm_parts
  have HI := Lib.hid ji
  have HZ0 := Lib.hid jz0
  have HZ1 := Lib.hid jz1
  have HZ2 := Lib.hid jz2
  obtain ⟨k0, hi, hz0, hz1, hz2⟩ := info_int_partsP
  have JI := Lib.hid hi
  have JZ0 := Lib.hid hz0
  have JZ1 := Lib.hid hz1
  have JZ2 := Lib.hid hz2
  clear hb ji jz0 jz1 jz2 hi hz0 hz1 hz2
  go_enter Try.func12, Try.ntmps12
  go_wp2_with fail
  go_loopw [7, 8] (fun v7 v8 wr => ∃ (i : Nat) (A' : Option Addr) (c' : Nat) (out : List (Int × Int)), i ≤ n ∧ v8 = .int .i64 i ∧ v7 = .slice A' out.length c' ∧ Hid (out = restW (l.take i) now) ∧ Hid (OwnE prE 29 wr w.heap.size A' out.length c' out) ∧ Hid (Es prE wr w.heap.size A n l) ∧ Hid (Low w wr)) (fun _ v _ => n - (intOf v).toNat)
  case atStart => exact ⟨0, none, 0, [], by omega, rfl, rfl, Lib.hid rfl, Lib.hid (OwnE.none_ _ _ _ _), HB, Lib.hid (Low.refl _)⟩
  case round =>
    clear HB
    obtain ⟨i, A', c', out, hi, rfl, rfl, HO, HW, HB, hL⟩ := hrel
    by_cases hlt : i < n
    · obtain ⟨b, o, rfl, hbb, _⟩ := HB.out.mem (by omega)
      have hlt2 : (i : Int) < n := by omega
      obtain ⟨c0, c1⟩ := pr_cells HB.out hlt
      have HXO := Lib.hid (getD_ok2 HB.out i)
      have HT := Lib.hid (restW_take l now i (by rw [HL.out]; exact hlt))
      rw [← HO.out] at HT
      have hlo : out.length ≤ 1000 := by
        have h1 := restW_len (l.take i) now
        rw [← HO.out, List.length_take, HL.out] at h1
        omega
      obtain ⟨x, hx⟩ : ∃ x, x = l.getD i (0, 0) := ⟨_, rfl⟩
      rw [← hx] at c0 c1 HXO HT
      obtain ⟨y, z⟩ := x
      dsimp only at c0 c1
      replace hx := Lib.hid hx
      by_cases hyx : now < z
      · rw [if_pos hyx] at HT
        have hE2 : Es prE (wr.alloc (.cells #[.int .i64 y, .int .i64 z] 29)) (wr.heap.size + 1) (some ⟨wr.heap.size, 0, none⟩) 1 [(y, z)] := Es.one_ (E := prE) wr 29 (y, z) HXO.out (Nat.lt_succ_self _)
        have hlA := Low.alloc wr (.cells #[.int .i64 y, .int .i64 z] 29)
        have hO3 := HW.out.below hlA
        have HB3 := Lib.hid (HB.out.below (hlA.mono hL.out.size))
        have HL3 := Lib.hid (Below.trans hL.out (hlA.mono hL.out.size))
        have hb5 : w.heap.size ≤ (wr.alloc (.cells #[.int .i64 y, .int .i64 z] 29)).heap.size := by have := hL.out.size; simp; omega
        clear hlA HW HB hL
        go_wp2_with (at_builtin; refine wpList_append_es (E := prE) rfl _ _ _ rfl w.heap.size 29 i0 _ 16 Try.underlying25 HI.out HZ0.out HZ1.out rfl HZ2.out _ out.length c' out rfl hO3 _ 1 1 (wr.heap.size + 1) [(y, z)] rfl hE2 (by omega) (by omega) hb5 ?_; intro A4 c4 w4 hO4 hg4 hb4; refine Hid.out ?_)
        refine Lib.hid ?_
        have HL4 := Lib.hid (show Low w w4 from Below.grown HL3.out hg4 hb5 (fun j hj => (hO3.lt j hj).1))
        have HB4 := Lib.hid (HB3.out.keep (w' := w4) fun p hp => World.cell?_of_block (hg4.block p.block (by omega) (fun e => by have := (hO3.lt _ e.symm).1; omega)))
        have HO4 := Lib.hid (show OwnE prE 29 w4 w.heap.size A4 (out ++ [(y, z)]).length c4 (out ++ [(y, z)]) by rw [List.length_append]; exact hO4)
        clear hO4 hg4 hb4 hO3 HB3 HL3 hE2 hb5
        go_wp2_with fail
        go_roundw
        case rel => exact ⟨i + 1, A4, c4, out ++ [(y, z)], by omega, by go_num, by rw [List.length_append]; rfl, Lib.hid HT.out.symm, HO4, HB4, HL4⟩
        case measure => simp [intOf]; omega
      · rw [if_neg hyx] at HT
        go_wp2_with fail
        go_roundw
        case rel => exact ⟨i + 1, A', c', out, by omega, by go_num, rfl, Lib.hid HT.out.symm, HW, HB, hL⟩
        case measure => simp [intOf]; omega
    · obtain rfl : i = n := by omega
      rw [List.take_of_length_le (by rw [HL.out]; exact Nat.le_refl _)] at HO
      have hni : ¬ (i : Int) < i := by omega
      go_wp2_with fail
      clear hni
      go_loopw [6, 9] (fun v6 v9 wr => ∃ (q : Nat) (B : Option Addr) (d : Nat) (due : List Int), q ≤ 256 ∧ v9 = .int .i64 q ∧ v6 = .slice B due.length d ∧ Hid (due = upW l now q) ∧ Hid (OwnN 3 wr w.heap.size B due.length d due) ∧ Hid (∀ j, (Value.slice B due.length d).ownBlock = some j → (Value.slice A' out.length c').ownBlock ≠ some j) ∧ Hid (OwnE prE 29 wr w.heap.size A' out.length c' out) ∧ Hid (Es prE wr w.heap.size A i l) ∧ Hid (Low w wr)) (fun _ v _ => 256 - (intOf v).toNat)
      case atStart => exact ⟨0, none, 0, [], by omega, rfl, rfl, Lib.hid rfl, Lib.hid (OwnN.noneP _ _ _), Lib.hid (fun j e => by cases e), HW, HB, hL⟩
      case round =>
        clear HW HB hL
        obtain ⟨q, B, d, due, hq, rfl, rfl, HDU, HD, HNE, HW, HB, hL⟩ := hrel
        by_cases hq2 : q < 256
        · have hq3 : (q : Int) < 256 := by omega
          go_wp2_with fail
          go_loopw [6, 10] (fun v6 v10 wr => ∃ (t : Nat) (B : Option Addr) (d : Nat) (due2 : List Int), t ≤ i ∧ v10 = .int .i64 t ∧ v6 = .slice B due2.length d ∧ Hid (due2 = due ++ oneW (l.take t) now q) ∧ Hid (OwnN 3 wr w.heap.size B due2.length d due2) ∧ Hid (∀ j, (Value.slice B due2.length d).ownBlock = some j → (Value.slice A' out.length c').ownBlock ≠ some j) ∧ Hid (OwnE prE 29 wr w.heap.size A' out.length c' out) ∧ Hid (Es prE wr w.heap.size A i l) ∧ Hid (Low w wr)) (fun _ v _ => i - (intOf v).toNat)
          case atStart => exact ⟨0, B, d, due, by omega, rfl, rfl, Lib.hid (by simp [oneW]), HD, HNE, HW, HB, hL⟩
          case round =>
            clear HD HNE HW HB hL
            obtain ⟨t, B, d, due2, ht, rfl, rfl, HD2, HD, HNE, HW, HB, hL⟩ := hrel
            by_cases hti : t < i
            · obtain ⟨b, o, rfl, hbb, _⟩ := HB.out.mem (by omega)
              have hti2 : (t : Int) < i := by omega
              obtain ⟨c0, c1⟩ := pr_cells HB.out hti
              have HT := Lib.hid (oneW_take l now q t (by rw [HL.out]; exact hti))
              have hlo : due2.length ≤ 257000 := by
                have h1 := upW_len l now q
                have h2 := oneW_len (l.take t) now q
                rw [HD2.out, List.length_append, HDU.out]
                rw [List.length_take, HL.out] at h2
                rw [HL.out] at h1
                have h3 : q * i ≤ 256 * 1000 := Nat.mul_le_mul hq hn
                omega
              generalize (l.getD t (0, 0)).1 = y at *
              generalize (l.getD t (0, 0)).2 = z at *
              by_cases hy : y = q ∧ z ≤ now
              · obtain ⟨rfl, hz⟩ := hy
                rw [if_pos ⟨rfl, hz⟩] at HT
                have HD3 := Lib.hid (show due2 ++ [(q : Int)] = due ++ oneW (l.take (t + 1)) now q by rw [HT.out, HD2.out, List.append_assoc])
                have hlA := Low.alloc wr (.cells #[.int .i64 (q : Int)] 3)
                have hkA : BlkN (wr.alloc (.cells #[.int .i64 (q : Int)] 3)) 3 wr.heap.size [(q : Int)] := BlkN.new wr 3 [(q : Int)]
                have hbA := hkA.bs (n := 1) (.cons (by omega) (by omega) .nil) hkA.lt rfl
                have hO3 := HD.out.below hlA
                have HW3 := Lib.hid (HW.out.below hlA)
                have HB3 := Lib.hid (HB.out.below (hlA.mono hL.out.size))
                have HL3 := Lib.hid (Below.trans hL.out (hlA.mono hL.out.size))
                have hzw := hL.out.size
                have hb5 : w.heap.size ≤ (wr.alloc (.cells #[.int .i64 (q : Int)] 3)).heap.size := by simp; omega
                have HWL := Lib.hid (fun j (hj : (Value.slice A' out.length c').ownBlock = some j) => (HW.out.lt j hj).2)
                clear hkA hlA HD HW HB hL HD2
                have hqq : ((q : Int) == (q : Int)) = true := by simp
                go_wp2_with (at_builtin; refine wpList_append_ns rfl _ _ _ rfl w.heap.size 3 k0 Try.underlying36 JI.out JZ0.out JZ1.out JZ2.out _ due2.length d due2 rfl hO3 _ 1 _ _ [(q : Int)] rfl hbA (by omega) hb5 ?_; intro A4 c4 w4 hO4 hg4 hb4; refine Hid.out ?_)
                refine Lib.hid ?_
                have HL4 := Lib.hid (show Low w w4 from Below.grown HL3.out hg4 hb5 (fun j hj => (hO3.lt j hj).1))
                have HB4 := Lib.hid (HB3.out.keep (w' := w4) fun p hp => World.cell?_of_block (hg4.block p.block (by omega) (fun e => by have := (hO3.lt _ e.symm).1; omega)))
                have HO4 := Lib.hid (show OwnN 3 w4 w.heap.size A4 (due2 ++ [(q : Int)]).length c4 (due2 ++ [(q : Int)]) by rw [List.length_append]; exact hO4)
                have HW4 : Hid (OwnE prE 29 w4 w.heap.size A' out.length c' out) := Lib.hid ⟨HW3.out.1.kept hg4 (by
                  cases hob : (Value.slice A' out.length c').ownBlock with
                  | none => exact .inl rfl
                  | some j => exact .inr (fun e => HNE.out j e.symm hob)), HW3.out.2⟩
                have HNE4 := Lib.hid (show ∀ j, (Value.slice A4 (due2 ++ [(q : Int)]).length c4).ownBlock = some j → (Value.slice A' out.length c').ownBlock ≠ some j from fun j e e5 => by
                  have e2 : (Value.slice A4 (due2.length + 1) c4).ownBlock = some j := by rw [← e, List.length_append]; rfl
                  rcases hb4 with h | h
                  · rw [h] at e2
                    exact HNE.out j e2 e5
                  · rw [h] at e2
                    injection e2 with e2
                    have := HWL.out j e5
                    simp at e2
                    omega)
                clear hO4 hg4 hb4 hO3 HB3 HL3 hbA hb5 HW3 hqq HWL
                go_wp2_with fail
                go_roundw
                case rel => exact ⟨t + 1, A4, c4, due2 ++ [(q : Int)], by omega, by go_num, by rw [List.length_append]; rfl, HD3, HO4, HNE4, HW4, HB4, HL4⟩
                case measure => simp [intOf]; omega
              · rw [if_neg hy] at HT
                have HD3 := Lib.hid (show due2 = due ++ oneW (l.take (t + 1)) now q by rw [HT.out]; exact HD2.out)
                by_cases hyq : y = q
                · have hz : now < z := by
                    rcases Int.lt_or_le now z with h | h
                    · exact h
                    · exact absurd ⟨hyq, h⟩ hy
                  subst hyq
                  have hqq : ((q : Int) == (q : Int)) = true := by simp
                  clear hy HD2
                  go_wp2_with fail
                  go_roundw
                  case rel => exact ⟨t + 1, B, d, due2, by omega, by go_num, rfl, HD3, HD, HNE, HW, HB, hL⟩
                  case measure => simp [intOf]; omega
                · have hyq2 : (y == (q : Int)) = false := by simpa using hyq
                  clear hy HD2
                  replace hyq := Lib.hid hyq
                  go_wp2_with fail
                  go_roundw
                  case rel => exact ⟨t + 1, B, d, due2, by omega, by go_num, rfl, HD3, HD, HNE, HW, HB, hL⟩
                  case measure => simp [intOf]; omega
            · obtain rfl : t = i := by omega
              rw [List.take_of_length_le (by rw [HL.out]; exact Nat.le_refl _)] at HD2
              have HUP := Lib.hid (show due2 = upW l now (q + 1) by rw [HD2.out, HDU.out]; rfl)
              have hni : ¬ (t : Int) < t := by omega
              go_wp2_with fail
              go_roundw
              case rel => exact ⟨q + 1, B, d, due2, by omega, by go_num, rfl, HUP, HD, HNE, HW, HB, hL⟩
              case measure => simp [intOf]; omega
        · obtain rfl : q = 256 := by omega
          have HDW := Lib.hid (show due = dueW l now from HDU.out)
          have hq3 : ¬ ((256 : Nat) : Int) < 256 := by omega
          go_wp2_with fail
          go_ret2
          rw [← HDW.out, ← HO.out]
          exact ⟨B, d, A', c', rfl, HD.out, HW.out, hL.out⟩
end Go.Proofs.Ythbboiolhejmmaa
