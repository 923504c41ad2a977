/- Stage 20: the document's Pairs and Ints. Conditions: tables of at most 1000 numbers for Pairs. -/
import Derived.Test.YtedldebomoplmaaHiC
import Derived.Test.YtedldebomoplmaaRin
import Derived.Test.YtedldebomoplmaaPiB
set_option maxRecDepth 100000
namespace Go.Proofs.Ytedldebomoplmaa
open Go.RowKit
set_option linter.unusedVariables false

/-- two numbers as an element -/
def two2 (p : Int × Int) : List Value := [.int .i64 p.1, .int .i64 p.2]
def pairE : Elt (Int × Int) := ⟨two2, fun _ => True, 2, by decide, fun _ _ => rfl, fun a u hu => by
  simp only [two2, List.mem_cons, List.not_mem_nil, or_false] at hu
  rcases hu with rfl | rfl <;> rfl, (0, 0), trivial⟩
theorem info_two : (Try.prog.info? 46).map (fun i => (i.zero, i.size, i.bytes)) = some (some (.agg #[.int .i64 0, .int .i64 0]), 2, 16) := by kernel_rfl
theorem info_two_parts : ∃ i, Try.prog.info? 46 = some i ∧ i.zero = some (.agg #[.int .i64 0, .int .i64 0]) ∧ i.size = 2 ∧ i.bytes = 16 := by
  have h := info_two
  cases hi : Try.prog.info? 46 with
  | none => simp [hi] at h
  | some i =>
    simp [hi] at h
    exact ⟨i, rfl, h.1, h.2.1, h.2.2⟩
/-- pairs handed back -/
def GivesTw (w : World) (l : List (Int × Int)) (e : Ending) (w' : World) : Prop := ∃ A c, e = .returned (.slice A l.length c) ∧ Es pairE w' w'.heap.size A l.length l ∧ EFrom w.heap.size A l.length ∧ Low w w'

set_option maxHeartbeats 1600000 in
set_option maxRecDepth 100000 in
theorem rpairsH_any (A : Option Addr) (n c : Nat) (l : List Vd) (H : Nat) (w : World) (hn : n ≤ 100) (hH : H < 18446744073709551616) (hv : Vs (fun _ => False) 1000 w A n l) :
    Calls Try.prog 13 #[.slice A n c, .int .u64 H] w (GivesTw w (pairsH (l.map Vd.v) H)) := by
  have HL := Lib.hid hv.len
  have HV := Lib.hid hv
  have HH := Lib.hid hH
  clear hv hH
  obtain ⟨j0, hi, hz0, hz1, hz2⟩ := info_two_parts
  have RI := Lib.hid hi
  have RZ0 := Lib.hid hz0
  have RZ1 := Lib.hid hz1
  have RZ2 := Lib.hid hz2
  clear hi hz0 hz1 hz2
  have HPL := Lib.hid (show (pairsH (l.map Vd.v) H).length = n by unfold pairsH; rw [List.length_map, List.length_map, HL.out])
  have HPT := Lib.hid (show ∀ i, i < n → (pairsH (l.map Vd.v) H).take (i + 1) = (pairsH (l.map Vd.v) H).take i ++ [(firstP (l.getD i zeroVd).t H, secondP (l.getD i zeroVd).t H)] from fun i hi => by
    have h1 : i < (pairsH (l.map Vd.v) H).length := by rw [HPL.out]; exact hi
    have h2 : i < l.length := by rw [HL.out]; exact hi
    rw [List.take_succ_eq_append_getElem h1]
    simp [pairsH, List.getD, h2, Vd.v])
  generalize pairsH (l.map Vd.v) H = R at *
  go_enter Try.func13, Try.ntmps13
  go_wp2_with fail
  go_loopw [5, 6] (fun v5 v6 wr => ∃ (i : Nat) (D : Option Addr) (e : Nat), i ≤ n ∧ v6 = .int .i64 i ∧ v5 = .slice D i e ∧ Hid (OwnE pairE 46 wr w.heap.size D i e (R.take i)) ∧ Hid (Low w wr)) (fun _ v _ => n - (intOf v).toNat)
  case atStart => exact ⟨0, none, 0, by omega, rfl, rfl, Lib.hid (by rw [List.take_zero]; exact OwnE.none_ _ _ _ _), Lib.hid (Low.refl _)⟩
  case round =>
    obtain ⟨i, D, e, hi, rfl, rfl, HO, hL⟩ := hrel
    by_cases hlt : i < n
    · have hlt2 : (i : Int) < n := by omega
      obtain ⟨b, o, rfl, _, hrg, hN, _, _, hk⟩ := (HV.out.low hL.out).at_ hlt
      have hq := (ver_cells hrg).2.2.2
      have HX := Lib.hid (HPT.out i hlt)
      generalize l.getD i zeroVd = x at *
      obtain ⟨xn, xf, xu, xA, xk, xc, xt⟩ := x
      dsimp only at hq hN hk
      have HN := Lib.hid (rtwoP_any xA xk xc xt H wr hk HH.out hN)
      clear hrg hN
      go_wp2_with fail
      refine HN.out.mono ?_
      rintro e1 w1 ⟨rfl, rfl⟩
      generalize firstP xt H = p1 at *
      generalize secondP xt H = p2 at *
      have hO2 := HO.out.below (Low.alloc wr (.cells #[.int .i64 p1, .int .i64 p2] 46))
      have hE2 : Es pairE (wr.alloc (.cells #[.int .i64 p1, .int .i64 p2] 46)) (wr.heap.size + 1) (some ⟨wr.heap.size, 0, none⟩) 1 [(p1, p2)] := Es.one_ (E := pairE) wr 46 (p1, p2) trivial (Nat.lt_succ_self _)
      have HL2 := Lib.hid (hL.out.trans (Low.alloc wr (.cells #[.int .i64 p1, .int .i64 p2] 46)))
      have hbs : w.heap.size ≤ (wr.alloc (.cells #[.int .i64 p1, .int .i64 p2] 46)).heap.size := HL2.out.size
      clear HN hq
      go_wp2_with (at_builtin; refine wpList_append_es (E := pairE) rfl (.tmp 25) (.tmp 29) _ rfl w.heap.size 46 j0 _ 16 Try.underlying40 RI.out RZ0.out RZ1.out rfl RZ2.out D i e _ rfl hO2 _ 1 1 (wr.heap.size + 1) [(p1, p2)] rfl hE2 (by omega) (by omega) hbs ?_; intro A9 c9 w9 hown hgr hob; refine Hid.out ?_)
      refine Lib.hid ?_
      have HL9 := Lib.hid (show Low w w9 from Below.grown HL2.out hgr hbs (fun z hz => (hO2.lt z hz).1))
      rw [← HX.out] at hown
      have HO9 := Lib.hid hown
      clear hown hgr hob hO2 hE2 HL2 hbs
      go_wp2_with fail
      go_roundw
      case rel => exact ⟨i + 1, A9, c9, by omega, by go_num, rfl, HO9, HL9⟩
      case measure => simp [intOf]; omega
    · obtain rfl : i = n := by omega
      have hlt2 : ¬ (i : Int) < i := by omega
      rw [List.take_of_length_le (by rw [HPL.out]; exact Nat.le_refl _)] at HO
      go_wp2_with fail
      go_ret
      exact ⟨D, e, by rw [HPL.out]; rfl, by rw [HPL.out]; exact HO.out.lies (Nat.le_refl _), by rw [HPL.out]; exact HO.out.from_, hL.out⟩

end Go.Proofs.Ytedldebomoplmaa
