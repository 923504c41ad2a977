/- Stage 22: the document's Drop and Touch. Condition: at most 300 numbers. -/
import Derived.Test.YtpphkmedlpdccaaRcA
import Derived.Test.YtpphkmedlpdccaaNumG
set_option maxRecDepth 100000
namespace Go.Proofs.Ytpphkmedlpdccaa
open Go.RowKit
set_option linter.unusedVariables false

theorem OwnN.lessN {t : TypeId} {w : World} {b b' n c : Nat} {A : Option Addr} {ys : List Int} (h : OwnN t w b A n c ys) (hb : b' ≤ b) : OwnN t w b' A n c ys :=
  ⟨⟨h.1.1, h.1.2.imp id fun ⟨g, cap, cur, h1, h2, h3⟩ => ⟨g, cap, cur, h1, Nat.le_trans hb h2, h3⟩⟩, h.2⟩
set_option maxHeartbeats 3200000 in
theorem rdropR_any (A : Option Addr) (n c : Nat) (l : List Int) (x : Int) (w : World) (hn : n ≤ 300) (hx : i64ok x) (hb : Ns w w.heap.size A n l) :
    Calls Try.prog 10 #[.slice A n c, .int .i64 x] w fun e w' => ∃ A' c', e = .returned (.tuple #[.slice A' (dropR l x).length c', .bool (l.contains x)]) ∧ (dropR l x).length ≤ c' ∧ OwnN 3 w' w.heap.size A' (dropR l x).length c' (dropR l x) ∧ Low w w' := by
  have HL := Lib.hid hb.len
  have HB := Lib.hid hb
  obtain ⟨i0, hi, hz0, hz1, hz2⟩ := info_int_partsP
  have HI := Lib.hid hi
  have HZ0 := Lib.hid hz0
  have HZ1 := Lib.hid hz1
  have HZ2 := Lib.hid hz2
  clear hb hi hz0 hz1 hz2
  go_enter Try.func10, Try.ntmps10
  go_wp2_with fail
  go_loopw [6, 7] (fun v6 v7 wr => ∃ (i : Nat) (A' : Option Addr) (c' : Nat) (out : List Int), i ≤ n ∧ v7 = .int .i64 i ∧ v6 = .slice A' out.length c' ∧ Hid (out = dropR (l.take i) x) ∧ Hid (OwnN 3 wr w.heap.size A' out.length c' out) ∧ Hid (Ns wr w.heap.size A n l) ∧ Hid (Low w wr)) (fun _ v _ => n - (intOf v).toNat)
  case atStart => exact ⟨0, none, 0, [], by omega, rfl, rfl, Lib.hid rfl, Lib.hid (OwnN.noneP _ _ _), HB, Lib.hid (Low.refl _)⟩
  case round =>
    clear HB
    obtain ⟨i, A', c', out, hi, rfl, rfl, HO, HW, HB, hL⟩ := hrel
    by_cases hlt : i < n
    · obtain ⟨b, o, rfl, hbb, hc⟩ := HB.out.at_ hlt
      have hlt2 : (i : Int) < n := by omega
      have c0 := hc i hlt
      have hyk := HB.out.nonneg i
      have HT := Lib.hid (dropR_take l x i (by rw [HL.out]; exact hlt))
      rw [← HO.out] at HT
      clear hc
      have hlo : out.length ≤ 300 := by
        have h1 := dropR_len (l.take i) x
        rw [← HO.out, List.length_take, HL.out] at h1
        omega
      generalize hy : l.getD i 0 = y at *
      replace hy := Lib.hid hy
      by_cases hyx : y = x
      · rw [if_pos hyx] at HT
        have hyx2 : (y != x) = false := by simpa using hyx
        replace hyx := Lib.hid hyx
        go_wp2_with fail
        go_roundw
        case rel => exact ⟨i + 1, A', c', out, by omega, by go_num, rfl, Lib.hid HT.out.symm, HW, HB, hL⟩
        case measure => simp [intOf]; omega
      · rw [if_neg hyx] at HT
        have hyx2 : (y != x) = true := by simpa using hyx
        have hlA := Low.alloc wr (.cells #[.int .i64 y] 3)
        have hkA : BlkN (wr.alloc (.cells #[.int .i64 y] 3)) 3 wr.heap.size [y] := BlkN.new wr 3 [y]
        have hbA := hkA.bs (n := 1) (.cons hyk.1 hyk.2 .nil) hkA.lt rfl
        have hO3 := HW.out.below hlA
        have HB3 := Lib.hid (HB.out.below (hlA.mono hL.out.size))
        have HL3 := Lib.hid (Below.trans hL.out (hlA.mono hL.out.size))
        have hb5 : w.heap.size ≤ (wr.alloc (.cells #[.int .i64 y] 3)).heap.size := by have := hL.out.size; simp; omega
        clear hkA hlA HW HB hL
        replace hyx := Lib.hid hyx
        go_wp2_with (at_builtin; refine wpList_append_ns rfl _ _ _ rfl w.heap.size 3 i0 Try.underlying26 HI.out HZ0.out HZ1.out HZ2.out _ out.length c' out rfl hO3 _ 1 _ _ [y] rfl hbA (by omega) hb5 ?_; intro A4 c4 w4 hO4 hg4 hb4; refine Hid.out ?_)
        refine Lib.hid ?_
        have HL4 := Lib.hid (show Low w w4 from Below.grown HL3.out hg4 hb5 (fun j hj => (hO3.lt j hj).1))
        have HB4 := Lib.hid (HB3.out.keep (w' := w4) fun p hp => World.cell?_of_block (hg4.block p.block (by omega) (fun e => by have := (hO3.lt _ e.symm).1; omega)))
        have HO4 := Lib.hid (show OwnN 3 w4 w.heap.size A4 (out ++ [y]).length c4 (out ++ [y]) by rw [List.length_append]; exact hO4)
        clear hO4 hg4 hb4 hO3 HB3 HL3 hbA hb5
        go_wp2_with fail
        go_roundw
        case rel => exact ⟨i + 1, A4, c4, out ++ [y], by omega, by go_num, by rw [List.length_append]; rfl, Lib.hid HT.out.symm, HO4, HB4, HL4⟩
        case measure => simp [intOf]; omega
    · obtain rfl : i = n := by omega
      rw [List.take_of_length_le (by rw [HL.out]; exact Nat.le_refl _)] at HO
      have HTO := Lib.hid (dropR_told l x)
      rw [← HO.out, HL.out] at HTO
      have hlo : out.length ≤ i := by
        have h1 := dropR_len l x
        rw [← HO.out, HL.out] at h1
        exact h1
      obtain ⟨m, hm⟩ : ∃ m, m = out.length := ⟨_, rfl⟩
      rw [← hm] at HTO hlo HW ⊢
      replace hm := Lib.hid hm
      go_wp2_with fail
      go_ret2
      have hcap : m ≤ c' := by
        rcases HW.out.1.2 with ⟨e, h0⟩ | ⟨g, cap, cur, e, _, _, hnc, _⟩
        · omega
        · injection e with _ _ e3
          omega
      rw [← HO.out, ← hm.out]
      exact ⟨A', c', by rw [← HTO.out]; simp, hcap, HW.out, hL.out⟩

set_option maxHeartbeats 3200000 in
theorem rtouchR_any (A : Option Addr) (n c : Nat) (l : List Int) (x : Int) (w : World) (hn : n ≤ 300) (hx : i64ok x) (hb : Ns w w.heap.size A n l) :
    Calls Try.prog 8 #[.slice A n c, .int .i64 x] w fun e w' => ∃ A' c', e = .returned (.slice A' (touchR l x).length c') ∧ (touchR l x).length ≤ c' ∧ OwnN 3 w' w.heap.size A' (touchR l x).length c' (touchR l x) ∧ Low w w' := by
  have HL := Lib.hid hb.len
  have HD := Lib.hid (rdropR_any A n c l x w hn hx hb)
  have HLE := Lib.hid (show (dropR l x).length ≤ 300 by have := dropR_len l x; rw [HL.out] at this; omega)
  have HT := Lib.hid (show touchR l x = [x] ++ dropR l x from rfl)
  obtain ⟨i0, hi, hz0, hz1, hz2⟩ := info_int_partsP
  have HI := Lib.hid hi
  have HZ0 := Lib.hid hz0
  have HZ1 := Lib.hid hz1
  have HZ2 := Lib.hid hz2
  have HX := Lib.hid hx
  clear hb hi hz0 hz1 hz2 hx
  generalize dropR l x = out at *
  go_enter Try.func8, Try.ntmps8
  go_wp2_with fail
  refine HD.out.mono ?_
  rintro e w2 ⟨A2, c2, rfl, hc2, hO2, hl2⟩
  have hlA := Low.alloc w2 (.cells #[.int .i64 x] 3)
  have hkA : BlkN (w2.alloc (.cells #[.int .i64 x] 3)) 3 w2.heap.size [x] := BlkN.new w2 3 [x]
  have hOA : OwnN 3 (w2.alloc (.cells #[.int .i64 x] 3)) w2.heap.size (some ⟨w2.heap.size, 0, none⟩) 1 1 [x] := ⟨hkA.own (Nat.le_refl _) rfl (by simp [maxLen]), .cons HX.out.1 HX.out.2 .nil⟩
  have hN3 : Ns (w2.alloc (.cells #[.int .i64 x] 3)) w2.heap.size A2 out.length out := (Ns.of_own (Nat.le_refl _) hO2.2 hO2.1).below hlA
  have HL3 := Lib.hid (hl2.trans hlA)
  have hz2 := hl2.size
  have hb5 : w2.heap.size ≤ (w2.alloc (.cells #[.int .i64 x] 3)).heap.size := by simp
  have hle := HLE.out
  obtain ⟨m, hm⟩ : ∃ m, m = out.length := ⟨_, rfl⟩
  rw [← hm] at hN3 hle hc2 ⊢
  have HM := Lib.hid hm
  clear hkA hlA hO2 hl2 hm
  go_wp2_with (at_builtin; refine wpList_append_ns rfl _ _ _ rfl w2.heap.size 3 i0 Try.underlying26 HI.out HZ0.out HZ1.out HZ2.out _ 1 1 [x] rfl hOA A2 m c2 _ out rfl hN3 (by omega) hb5 ?_; intro A4 c4 w4 hO4 hg4 hb4; refine Hid.out ?_)
  refine Lib.hid ?_
  have HL4 := Lib.hid (show Low w w4 from Below.grown HL3.out hg4 (by omega) (fun j hj => by have := (hOA.lt j hj).1; omega))
  rw [← HT.out] at hO4
  have hln : (touchR l x).length = 1 + m := by rw [HT.out, List.length_append, ← HM.out]; rfl
  have HLN := Lib.hid hln
  have HO4 := Lib.hid hO4
  clear hO4 hg4 hb4 hOA hN3 HL3 hln hb5
  go_wp2_with fail
  go_ret
  rw [HLN.out]
  have hO := HO4.out
  have hcap : 1 + m ≤ c4 := by
    rcases hO.1.2 with ⟨e, h0⟩ | ⟨g, cap, cur, e, _, _, hnc, _⟩
    · omega
    · injection e with _ _ e3
      omega
  exact ⟨A4, c4, rfl, hcap, hO.lessN hz2, HL4.out⟩
end Go.Proofs.Ytpphkmedlpdccaa
