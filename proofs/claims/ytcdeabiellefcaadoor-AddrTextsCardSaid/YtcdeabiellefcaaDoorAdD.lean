/- What the document's own bit and In tell. Conditions: addresses are 16 bytes, the number is an int. -/
import Derived.Test.YtcdeabiellefcaaDoorAdC
namespace Go.Proofs.YtcdeabiellefcaaDoor
open Go.RowKit
set_option linter.unusedVariables false

def bitB (s : List Int) (i : Nat) : Bool := s.getD (i / 8) 0 / 2 ^ (7 - i % 8) % 2 == 1
def rinB (s d : List Int) (n : Int) : Bool := (List.range (min n.toNat 128)).all fun i => bitB s i == bitB d i
theorem low1 (w : World) (s : List Int) (t : TypeId) : Low w (w.alloc (.cells (cellsB s).toArray t)) := Low.alloc w _

set_option maxHeartbeats 800000 in
theorem bit_any (s : List Int) (i : Nat) (w : World) (hs : s.length = 16) (vs : AllB s) (hi : i < 128) :
    Calls Tryd.prog 30 #[addrV s, .int .i64 i] w fun e w' => e = .returned (.bool (bitB s i)) ∧ Below w.heap.size w w' := by
  unfold addrV
  have HS := Lib.hid hs
  clear hs
  have hB := Blk.new w 23 s
  have hL := low1 w s 23
  have h0 := hB.cell (i / 8)
  rw [cellsB_get (by rw [HS.out]; omega)] at h0
  have HE := Lib.hid (show bitB s i = (s.getD (i / 8) 0 / 2 ^ (7 - i % 8) % 2 == 1) from rfl)
  have hv := vs.getD (i / 8)
  generalize s.getD (i / 8) 0 = x at *
  clear hB
  go_enter Tryd.func30, Tryd.ntmps30
  go_wp2
  go_ret
  refine ⟨ret_bool ?_, hL⟩
  rw [HE.out]
  rw [Int.tmod_eq_emod_of_nonneg (Int.ediv_nonneg hv.1 (Int.le_of_lt (Int.pow_pos (by decide))))]

theorem rin_end {s d : List Int} {n : Int} {k : Nat} (h : (List.range k).all (fun i => bitB s i == bitB d i) = true) (hk : k = min n.toNat 128) : rinB s d n = true := by
  unfold rinB; rw [← hk]; exact h
theorem rin_not {s d : List Int} {n : Int} {k : Nat} (h : ¬ bitB s k = bitB d k) (hk : k < min n.toNat 128) : rinB s d n = false := by
  unfold rinB
  rw [List.all_eq_false]
  exact ⟨k, by simpa using hk, by simpa using h⟩
theorem rin_next {s d : List Int} {k : Nat} (h : (List.range k).all (fun i => bitB s i == bitB d i) = true) (e : bitB s k = bitB d k) : (List.range (k + 1)).all (fun i => bitB s i == bitB d i) = true := by
  rw [List.range_succ, List.all_append, h]
  simp [e]

set_option maxHeartbeats 1600000 in
set_option maxRecDepth 100000 in
theorem rin_any (s d : List Int) (n : Int) (w : World) (hs : s.length = 16) (hd : d.length = 16) (vs : AllB s) (vd : AllB d) (hn : i64ok n) :
    Calls Tryd.prog 18 #[addrV s, addrV d, .int .i64 n] w fun e w' => e = .returned (.bool (rinB s d n)) ∧ Below w.heap.size w w' := by
  unfold addrV
  unfold i64ok at hn
  have HS := Lib.hid hs
  have HD := Lib.hid hd
  have HB0 := Lib.hid (box_first w s d 23 23)
  have HB1 := Lib.hid (box_second w s d 23 23)
  have hL := low2 w s d 23 23
  clear hs hd
  go_enter Tryd.func18, Tryd.ntmps18
  go_wp2_with fail
  generalize (w.alloc (.cells (cellsB s).toArray 23)).alloc (.cells (cellsB d).toArray 23) = w0 at *
  go_loopw [7] (fun i wr => ∃ k : Nat, k ≤ 128 ∧ (k : Int) ≤ max n 0 ∧ i = .int .i64 k ∧ Hid ((List.range k).all (fun i => bitB s i == bitB d i) = true) ∧ Below w0.heap.size w0 wr) (fun i _ => 128 - (intOf i).toNat)
  case atStart => exact ⟨0, Nat.zero_le _, by omega, rfl, rfl, Below.refl _ _⟩
  case round =>
    obtain ⟨k, hk, hkn, rfl, HE, hB⟩ := hrel
    by_cases hlt : (k : Int) < n ∧ k < 128
    · obtain ⟨hlt, hlt2⟩ := hlt
      go_wp2_with fail
      refine wp_region_plan (.rd 0 (.rd 1 (.rd 3 (.rd 4 (.act 2 (.act 5 (.rd 6 (.done))))))))
        (by kernel_rfl) (by kernel_rfl) (fun _ _ d _ _ h => by cases d <;> exact h) (by kernel_rfl) ?_
      have hB1 : Below w0.heap.size w0 wr.drew := hB.drew
      have HC0 : Hid (Blk wr.drew 23 w.heap.size s) := HB0.out.below hB1 HB0.out.lt
      have HC1 : Hid (Blk wr.drew 23 (w.heap.size + 1) d) := HB1.out.below hB1 HB1.out.lt
      clear hB
      generalize wr.drew = w1 at *
      iterate 4 (refine walkP_read (v := _) rfl (by rfl) (by intro y hy; first | exact exec_load_addr rfl (HC0.out.below hy HC0.out.lt) HS.out | exact exec_load_addr rfl (HC1.out.below hy HC1.out.lt) HD.out | (go_simp; try rfl)) ?_; simp only [Act.put, List.setIfInBounds_toArray, List.set_cons_zero, List.set_cons_succ])
      refine walkP_act rfl (by rfl) (fun K hK => ?_)
      go_simp
      refine (bit_any s k w1 HS.out vs hlt2).mono ?_
      rintro e w2 ⟨rfl, hl⟩
      go_simp
      refine hK _ _ hl ?_
      clear hK K
      have hB2 := hB1.trans (hl.mono hB1.size)
      clear hl
      refine walkP_act rfl (by rfl) (fun K hK => ?_)
      go_simp
      refine (bit_any d k w2 HD.out vd hlt2).mono ?_
      rintro e w3 ⟨rfl, hl⟩
      go_simp
      refine hK _ _ hl ?_
      clear hK K
      have hB3 := hB2.trans (hl.mono hB2.size)
      clear hl hB1 hB2
      have HN := Lib.hid (rin_next (k := k) HE.out)
      have HX := Lib.hid (rin_not (s := s) (d := d) (n := n) (k := k))
      generalize bitB s k = b1 at *
      generalize bitB d k = b2 at *
      cases b1 <;> cases b2
      all_goals
        iterate 1 (refine walkP_read (v := _) rfl (by rfl) (by intro y hy; go_simp; try rfl) ?_; simp only [Act.put, List.setIfInBounds_toArray, List.set_cons_zero, List.set_cons_succ])
        unfold walkP
        first
          | (have HN2 := Lib.hid (HN.out rfl)
             clear HN HX
             go_wp2
             go_roundw
             case rel => exact ⟨k + 1, by omega, by omega, by go_num, HN2, hB3⟩
             case measure => simp [intOf]; omega)
          | (have HX2 := Lib.hid (HX.out (by decide) (by omega))
             clear HN HX
             go_wp2
             go_ret
             exact ⟨ret_bool HX2.out.symm, hL.trans hB3⟩)
    · have HX := Lib.hid (rin_end (n := n) HE.out (by omega))
      by_cases hq : (k : Int) < n
      · have hq2 : ¬ k < 128 := fun h => hlt ⟨hq, h⟩
        clear hlt
        go_wp2
        go_ret
        exact ⟨ret_bool HX.out.symm, hL.trans hB⟩
      · clear hlt
        go_wp2
        go_ret
        exact ⟨ret_bool HX.out.symm, hL.trans hB⟩
end Go.Proofs.YtcdeabiellefcaaDoor
