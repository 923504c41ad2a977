/- Stage 20: what the law asks of every program, given the program's own history. No condition. -/
import Derived.Test.YtedldebomoplmaaHiE
set_option maxRecDepth 100000
namespace Go.Proofs.Ytedldebomoplmaa
open Go.RowKit
set_option linter.unusedVariables false

/-- the versions of the law's example -/
def livesL : Nat → List Vb
  | 0 => []
  | i + 1 => nextH (livesL i) i i [((i : Int) + 1)]
theorem livesL_may (i : Nat) (h : i < 4) : mayH (livesL i) i = 0 := by
  rcases i with _ | _ | _ | _ | i
  · decide +kernel
  · decide +kernel
  · decide +kernel
  · decide +kernel
  · omega
theorem livesL_right : ∀ i : Nat, i ≤ 4 → RightH (livesL i) i
  | 0, _ => RightH.nil
  | i + 1, h => by
    have h0 := livesL_may i (by omega)
    have h1 := RightH.push (livesL_right i (by omega)) [((i : Int) + 1)] h0 (by omega)
    unfold livesL nextH
    rw [if_pos h0]
    exact_mod_cast h1
theorem livesL_16 : mayH (livesL 4) 16 = 11 := by decide +kernel
theorem livesL_17 : mayH (livesL 4) 17 = 0 := by decide +kernel
theorem livesL_len : (livesL 4).length = 4 := by decide +kernel
theorem livesL_num : ((livesL 4).getD (4 - 1) zeroVb).n = 4 := by decide +kernel
theorem HiObj.low (O : HiObj) {w w' : World} {p : Value} {F : Nat → Prop} {l : List Vb} {n : Int} (h : O.R w p F l n) (hl : Low w w') : O.R w' p F l n := O.keep h hl.size fun k hk => hl.block k (O.under h k hk)

set_option maxHeartbeats 3200000 in
set_option maxRecDepth 100000 in
theorem hilives_any (O : HiObj) (w : World) : Calls Try.prog 7 #[] w fun e w' => e = .returned (.bool true) ∧ Low w w' := by
  go_enter Try.func7, Try.ntmps7
  go_wp2_with fail
  refine (O.new w).mono ?_
  rintro e w1 ⟨g, F0, rfl, hR, hF, hl⟩
  have HR := Lib.hid hR
  have HF := Lib.hid hF
  have HL := Lib.hid (show Below w.heap.size w w1 from hl)
  clear hR hF hl
  go_wp2_with fail
  go_loopw [2] (fun v2 wr => ∃ (i : Nat) (F : Nat → Prop), i ≤ 4 ∧ v2 = .int .i64 i ∧ Hid (O.R wr (.pointer (some ⟨g, 0, none⟩)) F (livesL i) i) ∧ Hid (∀ k, F k → w.heap.size ≤ k) ∧ Hid (Below w.heap.size w wr)) (fun v _ => 4 - (intOf v).toNat)
  case atStart => exact ⟨0, F0, by omega, rfl, HR, HF, HL⟩
  case round =>
    clear HR HF HL
    obtain ⟨i, F, hi, rfl, HR, HF, HL⟩ := hrel
    by_cases hlt : i < 4
    · have hlt2 : (i : Int) < 4 := by omega
      have HM := Lib.hid (livesL_may i hlt)
      have HRT := Lib.hid (livesL_right i hi)
      have HNX := Lib.hid (show livesL (i + 1) = nextH (livesL i) i i [((i : Int) + 1)] from rfl)
      have hlA := Low.alloc wr (.cells #[.int .i64 ((i : Int) + 1)] 3)
      have hkA : BlkN (wr.alloc (.cells #[.int .i64 ((i : Int) + 1)] 3)) 3 wr.heap.size [((i : Int) + 1)] := BlkN.new wr 3 [((i : Int) + 1)]
      have HN := Lib.hid (hkA.bs (n := 1) (.cons (by omega) (by omega) .nil) hkA.lt rfl)
      have HR2 := Lib.hid (O.low HR.out hlA)
      have HL2 := Lib.hid (show Below w.heap.size w _ from HL.out.trans (hlA.mono HL.out.size))
      have hz := hlA.size
      clear hlA hkA
      generalize livesL i = L at *
      go_wp2_with fail
      refine (O.push (i : Int) _ 1 1 [((i : Int) + 1)] HR2.out HRT.out (by omega) (by unfold i64ok; omega) HN.out (by omega) (by omega)).mono ?_
      rintro e w2 ⟨rfl, F', hR2, hG, hO⟩
      rw [HM.out] at hR2 ⊢
      have hsz := HL.out.size
      have HF2 := Lib.hid (hG.from_ HF.out (by omega))
      have HL3 := Lib.hid (HL2.out.trans (hO.below HF.out (by omega)))
      rw [← HNX.out, show lastH (i : Int) 0 = ((i + 1 : Nat) : Int) by unfold lastH; rw [if_pos rfl]; omega] at hR2
      have HR3 := Lib.hid hR2
      clear hG hO hR2
      go_wp2_with fail
      go_roundw
      case rel => exact ⟨i + 1, F', by omega, by go_num, HR3, HF2, HL3⟩
      case measure => simp [intOf]; omega
    · obtain rfl : i = 4 := by omega
      have HRT := Lib.hid (livesL_right 4 (by omega))
      have M16 := Lib.hid livesL_16
      have M17 := Lib.hid livesL_17
      have MLN := Lib.hid livesL_len
      have MNU := Lib.hid livesL_num
      generalize livesL 4 = L at *
      have hsz := HL.out.size
      go_wp2_with fail
      refine (O.newest HR.out HRT.out (by omega)).mono ?_
      rintro e w2 ⟨x, rfl, hx, hl⟩
      have hxn := hx (by rw [MLN.out]; omega)
      rw [MLN.out, MNU.out] at hxn
      rw [MLN.out]
      obtain ⟨xn, xf, xu, xA, xk, xc, xt⟩ := x
      dsimp only at hxn
      subst hxn
      replace HR := Lib.hid (O.low HR.out hl)
      replace HL := Lib.hid (show Below w.heap.size w w2 from HL.out.trans (hl.mono hsz))
      have hsz2 := HL.out.size
      clear hl hx
      go_wp2_with (with_reducible refine wpList_alloc_v rfl _ rfl _ hver_zero ?_; intro w7 HZ hl7 hz7; refine Hid.out ?_)
      refine Lib.hid ?_
      replace HZ := Lib.hid HZ
      go_wp2_with ((refine wpList_store_v rfl 37 (.tmp 3) (.tmp 22) rfl w2.heap.size rfl [.int .i64 4, .int .i64 xf, .int .i64 xu, .slice xA xk xc] rfl _ _ HZ.out rfl hver_size (vdC_one ⟨4, xf, xu, xA, xk, xc, xt⟩) ?_); intro w8 HG hb8 hz8; refine Hid.out ?_)
      refine Lib.hid ?_
      have hl8 : Low w2 w8 := Below.trans hl7 hb8
      have HG8 := Lib.hid HG
      have HU := Lib.hid (show ¬ F w2.heap.size from fun h => by have := O.under HR.out _ h; omega)
      replace HR := Lib.hid (O.low HR.out hl8)
      replace HL := Lib.hid (show Below w.heap.size w w8 from HL.out.trans (hl8.mono hsz2))
      clear HZ hl7 hz7 hb8 hz8 hl8 HG
      obtain ⟨g3, hg3⟩ : ∃ g3, g3 = w2.heap.size := ⟨_, rfl⟩
      rw [← hg3] at HG8 HU ⊢
      have hsz3 := HL.out.size
      clear hg3
      go_wp2_with fail
      refine (O.push 16 none 0 0 [] HR.out HRT.out (by omega) (by unfold i64ok; omega) (Ns.nil _ _ _) (by omega) (by omega)).mono ?_
      rintro e w9 ⟨rfl, F', hR2, hG, hO⟩
      rw [M16.out] at hR2 ⊢
      rw [show nextH L ((4 : Nat) : Int) 16 [] = L by unfold nextH; rw [M16.out]; rfl, show lastH ((4 : Nat) : Int) 11 = ((4 : Nat) : Int) from rfl] at hR2
      replace HR := Lib.hid hR2
      replace HG8 := Lib.hid (HG8.out.out HU.out hO)
      replace HL := Lib.hid (HL.out.trans (hO.below HF.out hsz3))
      clear hR2 hG hO HU
      go_wp2_with fail
      refine (O.free 16 HR.out HRT.out (by omega) (by unfold i64ok; omega)).mono ?_
      rintro e w10 ⟨rfl, hl⟩
      rw [M16.out]
      replace HR := Lib.hid (O.low HR.out hl)
      replace HG8 := Lib.hid (BlkV.below HG8.out hl HG8.out.lt)
      replace HL := Lib.hid (show Below w.heap.size w _ from HL.out.trans (hl.mono HL.out.size))
      clear hl
      go_wp2_with fail
      refine (O.free 17 HR.out HRT.out (by omega) (by unfold i64ok; omega)).mono ?_
      rintro e w11 ⟨rfl, hl⟩
      rw [M17.out]
      replace HR := Lib.hid (O.low HR.out hl)
      replace HG8 := Lib.hid (BlkV.below HG8.out hl HG8.out.lt)
      replace HL := Lib.hid (show Below w.heap.size w _ from HL.out.trans (hl.mono HL.out.size))
      clear hl
      have c0 : w11.cell? ⟨g3, 0, none⟩ = some (.int .i64 4) := by rw [BlkV.cell HG8.out 0]; rfl
      go_wp2_with fail
      refine (O.all HR.out HRT.out (by omega)).mono ?_
      rintro e w12 ⟨A, n, c, l', rfl, hv, hnc, hV, _, _, hl⟩
      have hn := congrArg List.length hv
      rw [List.length_map, hV.len, MLN.out] at hn
      subst hn
      replace HL := Lib.hid (show Below w.heap.size w _ from HL.out.trans (hl.mono HL.out.size))
      clear hv hV hl c0
      go_wp2_with fail
      go_ret
      exact ⟨rfl, HL.out⟩
end Go.Proofs.Ytedldebomoplmaa
