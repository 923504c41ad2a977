/- What the laws' own small test of flows answers: true. Condition: the library's tables hold what their texts lay. -/
import Derived.Test.YtjafjapnmffohaaDoorFlG
set_option maxRecDepth 100000
namespace Go.Proofs.YtjafjapnmffohaaDoor
open Go.RowKit
set_option linter.unusedVariables false

def exFd : List Int := [0, 0, 0, 0, 0, 0, 0, 0, 0, 0, 0, 0, 0, 0, 0, 1]
def exF : Fw := ⟨zero16, 1, exFd, 2⟩
theorem exF_ok : exF.ok := ⟨rfl, rfl, zero_all, fun x hx => by
  simp [exF, exFd] at hx
  omega, by simp [exF, i64ok], by simp [exF, i64ok]⟩
theorem exF_text : textF exF = [91, 58, 58, 93, 58, 49, 32, 62, 32, 91, 58, 58, 49, 93, 58, 50] := by
  have h1 : Lib.itoa 1 = [49] := by rw [show (1 : Int) = ((1 : Nat) : Int) from rfl, Lib.itoa_nonneg, Lib.decDigits_one (by omega)]; rfl
  have h2 : Lib.itoa 2 = [50] := by rw [show (2 : Int) = ((2 : Nat) : Int) from rfl, Lib.itoa_nonneg, Lib.decDigits_one (by omega)]; rfl
  have h3 : textL zero16 = [58, 58] := by decide +kernel
  have h4 : textL exFd = [58, 58, 49] := by decide +kernel
  unfold textF endT
  rw [show exF.s = zero16 from rfl, show exF.sp = 1 from rfl, show exF.d = exFd from rfl, show exF.dp = 2 from rfl, h1, h2, h3, h4]
  rfl
theorem exF_right : rightF exF = true := by decide
theorem exF_less : lessF zeroF exF = true := by decide
theorem run_build_exA (w : World) : (Instr.build 23 #[(15, .int .u8 1)]).run Tryd.prog w = .ok (.agg (cellsB exFd).toArray) w := by kernel_rfl
theorem run_build_exF (w : World) : (Instr.build 25 #[(1, .int .i64 1), (2, .agg (cellsB exFd).toArray), (3, .int .i64 2)]).run Tryd.prog w = .ok (.agg (fwC exF).toArray) w := by kernel_rfl
theorem run_build_exZ (w : World) : (Instr.build 25 #[]).run Tryd.prog w = .ok (.agg (fwC zeroF).toArray) w := by kernel_rfl
theorem run_field_exB (w : World) : (Instr.field 25 (.agg (fwC (backF exF)).toArray) 1).run Tryd.prog w = .ok (.int .i64 2) w := by kernel_rfl
section
variable {ops : Array Oper} {rest : List Oper} {o : Oper} {a : Act} {w : World} {Q : Exit → Act → World → Prop}
theorem wpList_build_exA (hgd : o.guard = none) (x : Operand) (ho : o.op = .build 23 #[(15, x)]) (q : List Int) (hq : q = exFd) (e : a.eval x = .int .u8 1)
    (hk : wpList Tryd.prog ops Q rest (a.put o.dst (.agg (cellsB q).toArray)) w) : wpList Tryd.prog ops Q (o :: rest) a w :=
  wpList_plain hgd fun K hK => by
    subst hq
    unfold Oper.wp execOp
    simp only [ho, List.map_toArray, List.map_cons, List.map_nil, e, Sem.run_bind, run_build_exA, Result.andThen_ok, Sem.run_pure]
    exact hK _ _ hk
theorem wpList_build_exF (hgd : o.guard = none) (x1 x2 x3 : Operand) (ho : o.op = .build 25 #[(1, x1), (2, x2), (3, x3)]) (q : List Int) (hq : q = exFd) (F : Fw) (hF : F = exF) (e1 : a.eval x1 = .int .i64 1) (e2 : a.eval x2 = .agg (cellsB q).toArray) (e3 : a.eval x3 = .int .i64 2)
    (hk : wpList Tryd.prog ops Q rest (a.put o.dst (.agg (fwC F).toArray)) w) : wpList Tryd.prog ops Q (o :: rest) a w :=
  wpList_plain hgd fun K hK => by
    subst hq hF
    unfold Oper.wp execOp
    simp only [ho, List.map_toArray, List.map_cons, List.map_nil, e1, e2, e3, Sem.run_bind, run_build_exF, Result.andThen_ok, Sem.run_pure]
    exact hK _ _ hk
theorem wpList_build_exZ_g (hw : Region.wanted o (yielded ops a.tmps) = true) (ho : o.op = .build 25 #[]) (Z : Fw) (hZ : Z = zeroF)
    (hk : wpList Tryd.prog ops Q rest (a.put o.dst (.agg (fwC Z).toArray)) w) : wpList Tryd.prog ops Q (o :: rest) a w :=
  wpList_step fun K hK => by
    subst hZ
    simp only [hw, if_true]
    unfold Oper.wp execOp
    simp only [ho, List.map_toArray, List.map_nil, Sem.run_bind, run_build_exZ, Result.andThen_ok, Sem.run_pure]
    exact hK _ _ hk
theorem wpList_field_exB_g (hw : Region.wanted o (yielded ops a.tmps) = true) (x : Operand) (ho : o.op = .field 25 x 1) (F : Fw) (hF : F = exF) (hx : a.eval x = .agg (fwC (backF F)).toArray)
    (hk : wpList Tryd.prog ops Q rest (a.put o.dst (.int .i64 2)) w) : wpList Tryd.prog ops Q (o :: rest) a w :=
  wpList_step fun K hK => by
    subst hF
    simp only [hw, if_true]
    unfold Oper.wp execOp
    simp only [ho, hx, Sem.run_bind, run_field_exB, Result.andThen_ok, Sem.run_pure]
    exact hK _ _ hk
end

set_option maxRecDepth 100000 in
set_option maxHeartbeats 3200000 in
theorem fllives_any (w : World) (hp : Pow10 w) (ht : LibT w) : Calls Tryd.prog 13 #[] w fun e w' => e = .returned (.bool true) ∧ Below w.heap.size w w' := by
  have HP := Lib.hid hp
  have HT := Lib.hid ht
  clear hp ht
  obtain ⟨F, hF⟩ : ∃ F, F = exF := ⟨_, rfl⟩
  obtain ⟨Z, hZ⟩ : ∃ Z, Z = zeroF := ⟨_, rfl⟩
  obtain ⟨q, hq⟩ : ∃ q, q = exFd := ⟨_, rfl⟩
  have HO := Lib.hid (hF ▸ exF_ok)
  have HZ := Lib.hid (hZ ▸ zeroF_ok)
  have HX := Lib.hid (hF ▸ exF_text)
  have HR := Lib.hid (hF ▸ exF_right)
  have HL := Lib.hid (hF ▸ hZ ▸ exF_less)
  replace hF := Lib.hid hF
  replace hZ := Lib.hid hZ
  replace hq := Lib.hid hq
  go_enter Tryd.func13, Tryd.ntmps13
  go_wp2_with (first
    | (with_reducible refine wpList_build_exA rfl _ rfl q hq.out rfl ?_)
    | (with_reducible refine wpList_build_exF rfl _ _ _ rfl q hq.out F hF.out rfl rfl rfl ?_)
    | ((with_reducible refine wpList_alloc_fw rfl rfl ?_); intro w1 HY hl1 hz1; refine Hid.out ?_))
  refine Lib.hid ?_
  replace HY := Lib.hid HY
  go_wp2_with ((with_reducible refine wpList_store_fw rfl (.tmp 1) (.tmp 3) rfl w.heap.size rfl F rfl zeroF HY.out rfl rfl HO.out.s HO.out.d ?_); intro w2 HB hb2 hz2 ho2; refine Hid.out ?_)
  refine Lib.hid ?_
  replace HB := Lib.hid HB
  have hL : Low w w2 := Below.trans hl1 hb2
  clear HY hl1 hz1 hb2 hz2 ho2
  generalize hG : w.heap.size = G at *
  go_wp2_with (with_reducible refine wpList_load_fw rfl (.tmp 1) rfl G rfl F HB.out HO.out.s HO.out.d ?_)
  have HC := Lib.hid (ftext_any F w2 HO.out (HP.out.low hL) (HT.out.low hL))
  rw [HX.out] at HC
  unfold strD fwV at HC
  refine HC.out.mono ?_
  rintro e w3 ⟨rfl, hl⟩
  clear HC
  replace HB := Lib.hid (HB.out.below hl HB.out.lt)
  replace hL := hL.trans hl
  clear hl
  go_wp2_with (with_reducible refine wpList_load_fw_g rfl (.tmp 1) rfl G rfl F HB.out HO.out.s HO.out.d ?_)
  refine (fback_any F w3 HO.out).mono ?_
  rintro e w4 ⟨rfl, hl⟩
  replace HB := Lib.hid (HB.out.below hl HB.out.lt)
  replace hL := hL.trans hl
  clear hl
  unfold fwV
  go_wp2_with (first
    | (with_reducible refine wpList_field_exB_g rfl _ rfl F hF.out rfl ?_)
    | (with_reducible refine wpList_load_fw_g rfl (.tmp 1) rfl G rfl F HB.out HO.out.s HO.out.d ?_))
  refine (right_any F w4 HO.out).mono ?_
  rintro e w5 ⟨rfl, hl⟩
  rw [HR.out]
  replace HB := Lib.hid (HB.out.below hl HB.out.lt)
  replace hL := hL.trans hl
  clear hl
  go_wp2_with (with_reducible refine wpList_load_fw_g rfl (.tmp 1) rfl G rfl F HB.out HO.out.s HO.out.d ?_)
  refine (fbytes_any F w5 HO.out).mono ?_
  rintro e w6 ⟨v, rfl, g3, rfl, hg3, hk3, hl3, ha3, hl⟩
  replace HB := Lib.hid (HB.out.below hl HB.out.lt)
  replace hL := hL.trans hl
  clear hl hk3 ha3 hl3 hg3
  go_wp2_with (first
    | (with_reducible refine wpList_build_exZ_g rfl rfl Z hZ.out ?_)
    | (with_reducible refine wpList_load_fw_g rfl (.tmp 1) rfl G rfl F HB.out HO.out.s HO.out.d ?_))
  refine (fless_ext Z F w6 HZ.out HO.out).mono ?_
  rintro e w7 ⟨rfl, hl⟩
  rw [HL.out]
  replace hL := hL.trans hl.low
  clear hl
  go_wp2_with fail
  go_ret
  exact ⟨rfl, hL⟩
end Go.Proofs.YtjafjapnmffohaaDoor
