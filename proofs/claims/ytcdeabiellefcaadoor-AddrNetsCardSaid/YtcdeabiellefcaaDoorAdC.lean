/- What addr.In tells. Conditions: addresses are 16 bytes, the number is an int. -/
import Derived.Test.YtcdeabiellefcaaDoorAdB
import Derived.Test.YtcdeabiellefcaaDoorEq
namespace Go.Proofs.YtcdeabiellefcaaDoor
open Go.RowKit
set_option linter.unusedVariables false

theorem size_u8 : (Tryd.prog.info? 5).map (·.size) = some 1 := by kernel_rfl
/-- addresses are compared -/
theorem eq_addr (s d : List Int) (hs : s.length = 16) (hd : d.length = 16) (w : World) :
    (Op.equalIn 10000 23 (.agg (cellsB s).toArray) (.agg (cellsB d).toArray)).run Tryd.prog w = .ok (s == d) w := by
  obtain ⟨i, hi, hz⟩ := info_sized size_u8
  exact run_equalIn_ints w .u8 9998 23 5 16 i Tryd.underlying23 Tryd.underlying5 hi hz s d hs hd

theorem exec_load_addr {f : Operand → Value} {dd : Option Tmp} {x : Operand} {ty : TypeId} {pos : String} {gd : Option (Nat × Bool)} {w : World} {t : TypeId} {g : Nat} {s : List Int} (hx : f x = .pointer (some ⟨g, 0, none⟩)) (h : Blk w t g s) (hs : s.length = 16) :
    (execOp f ⟨dd, .load 23 x, ty, pos, #[], gd⟩).run Tryd.prog w = .ok (.value (.agg (cellsB s).toArray)) w := by
  unfold execOp
  simp only [hx, Instr.loadAt, Instr.sureAddr, Sem.run_bind, Sem.run_pure, Result.andThen_ok, run_loadVar_row w g t 23 (cellsB s).toArray _ _ h Tryd.underlying23 rfl (by rw [addr_size]; simp [cellsB_length, hs])]

def inB (s d : List Int) (n : Int) : Bool := prefL s n == prefL d n
set_option maxHeartbeats 800000 in
theorem in_any (s d : List Int) (n : Int) (w : World) (hs : s.length = 16) (hd : d.length = 16) (vs : AllB s) (vd : AllB d) (hn : i64ok n) :
    Calls Tryd.prog 17 #[addrV s, addrV d, .int .i64 n] w fun e w' => e = .returned (.bool (inB s d n)) ∧ Below w.heap.size w w' := by
  unfold addrV
  have HS := Lib.hid hs
  have HD := Lib.hid hd
  have HB0 := Lib.hid (box_first w s d 23 23)
  have HB1 := Lib.hid (box_second w s d 23 23)
  have hL := low2 w s d 23 23
  clear hs hd
  go_enter Tryd.func17, Tryd.ntmps17
  go_wp2_with fail
  generalize (w.alloc (.cells (cellsB s).toArray 23)).alloc (.cells (cellsB d).toArray 23) = w0 at *
  generalize hG : w.heap.size = G at HB0 HB1 ⊢
  refine wp_region_plan (.rd 0 (.rd 1 (.rd 3 (.rd 4 (.act 2 (.act 5 (.rd 6 (.rd 7 (.done)))))))))
    (by kernel_rfl) (by kernel_rfl) (fun _ _ d _ _ h => by cases d <;> exact h) (by kernel_rfl) ?_
  have hDR : Low w0 w0.drew := Below.drew (Below.refl _ _)
  replace hL := hL.trans hDR
  replace HB0 : Hid (Blk w0.drew 23 G s) := HB0
  replace HB1 : Hid (Blk w0.drew 23 (G + 1) d) := HB1
  clear hDR
  generalize w0.drew = w1 at *
  iterate 4 (refine walkP_read (v := _) rfl (by rfl) (by intro y hy; first | exact exec_load_addr rfl (HB0.out.below hy HB0.out.lt) HS.out | exact exec_load_addr rfl (HB1.out.below hy HB1.out.lt) HD.out | (go_simp; try rfl)) ?_; simp only [Act.put, List.setIfInBounds_toArray, List.set_cons_zero, List.set_cons_succ])
  refine walkP_act rfl (by rfl) (fun K hK => ?_)
  go_simp
  refine (prefix_any s n w1 HS.out vs hn).mono ?_
  rintro e w2 ⟨rfl, hl⟩
  unfold addrV
  go_simp
  refine hK _ _ hl ?_
  clear hK K
  replace hL := hL.trans hl
  clear hl
  refine walkP_act rfl (by rfl) (fun K hK => ?_)
  go_simp
  refine (prefix_any d n w2 HD.out vd hn).mono ?_
  rintro e w3 ⟨rfl, hl⟩
  unfold addrV
  go_simp
  refine hK _ _ hl ?_
  clear hK K
  replace hL := hL.trans hl
  clear hl
  have HI := Lib.hid (show inB s d n = (prefL s n == prefL d n) from rfl)
  have he := eq_addr (prefL s n) (prefL d n) (prefL_length s n) (prefL_length d n)
  generalize prefL s n = p1 at *
  generalize prefL d n = p2 at *
  iterate 2 (refine walkP_read (v := _) rfl (by rfl) (by intro y hy; go_simp; try rfl) ?_; simp only [Act.put, List.setIfInBounds_toArray, List.set_cons_zero, List.set_cons_succ])
  unfold walkP
  go_wp2
  go_ret
  exact ⟨ret_bool HI.out.symm, hL⟩
end Go.Proofs.YtcdeabiellefcaaDoor
