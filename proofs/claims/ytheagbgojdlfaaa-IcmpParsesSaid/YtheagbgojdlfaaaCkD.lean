/- What cksum.Pseudo, whole, Check and Fine tell. Conditions: the addresses are 16 bytes each, numbers are ints, the slice is at most 2^47 bytes long. -/
import Derived.Test.YtheagbgojdlfaaaCkC
import Derived.Test.YtheagbgojdlfaaaReg2
import Derived.Test.YtheagbgojdlfaaaOctD
namespace Go.Proofs.Ytheagbgojdlfaaa
open Go.RowKit
set_option linter.unusedVariables false

/-- what is thought ahead -/
def pseudoL (s d : List Int) (len next : Int) : List Int := s ++ d ++ four (len % 4294967296) ++ [0, 0, 0, next % 256]

set_option maxHeartbeats 800000 in
theorem pseudo_any (s d : List Int) (len next : Int) (w : World) (hs : s.length = 16) (hd : d.length = 16) (vs : AllB s) (vd : AllB d) (hl : i64ok len) (hx : i64ok next) :
    Calls Try.prog 46 #[addrV s, addrV d, .int .i64 len, .int .i64 next] w fun e w' => e = .returned (.int .i64 (sumL (pseudoL s d len next))) ∧ Below w.heap.size w w' := by
  unfold i64ok at hl hx
  unfold addrV
  have HS := Lib.hid hs
  have HD := Lib.hid hd
  clear hs hd
  go_enter Try.func46, Try.ntmps46
  have hL : Low w ((w.alloc (.cells (cellsB s).toArray 23)).alloc (.cells (cellsB d).toArray 23)) := (Low.alloc w _).trans (Low.alloc _ _)
  have hS : Bs ((w.alloc (.cells (cellsB s).toArray 23)).alloc (.cells (cellsB d).toArray 23)) (w.heap.size + 1 + 1) (some ⟨w.heap.size, 0, none⟩) 16 s :=
    ((Blk.new w 23 s).alloc _).bs vs (by omega) HS.out
  have hD : Bs ((w.alloc (.cells (cellsB s).toArray 23)).alloc (.cells (cellsB d).toArray 23)) (w.heap.size + 1 + 1) (some ⟨w.heap.size + 1, 0, none⟩) 16 d := by
    have := Blk.new (w.alloc (.cells (cellsB s).toArray 23)) 23 d
    rw [show (w.alloc (.cells (cellsB s).toArray 23)).heap.size = w.heap.size + 1 by simp] at this
    exact this.bs vd (by omega) HD.out
  have hz : ((w.alloc (.cells (cellsB s).toArray 23)).alloc (.cells (cellsB d).toArray 23)).heap.size = w.heap.size + 1 + 1 := by simp
  rw [← hz] at hS hD
  clear hz
  go_wp2_with fail
  generalize (w.alloc (.cells (cellsB s).toArray 23)).alloc (.cells (cellsB d).toArray 23) = w1 at *
  refine wp_region_plan (.rd 0 (.rd 1 (.rd 2 (.rd 3 (.rd 5 (.rd 6 (.fork 4 (.act 7 (.act 8 (.act 9 (.rd 10 .done)))) 7 (.act 4 (.act 8 (.act 9 (.rd 10 .done)))))))))))
    (by kernel_rfl) (by kernel_rfl) (fun _ _ d _ _ h => by cases d <;> exact h) (by kernel_rfl) ?_
  replace hL := hL.trans (Below.drew (Below.refl w1.heap.size w1))
  replace hS : Bs w1.drew w1.drew.heap.size (some ⟨w.heap.size, 0, none⟩) 16 s := hS.drew
  replace hD : Bs w1.drew w1.drew.heap.size (some ⟨w.heap.size + 1, 0, none⟩) 16 d := hD.drew
  generalize w1.drew = w2 at *
  generalize w.heap.size = gs at *
  iterate 6 (refine walkP_read (v := _) rfl (by rfl) (by intro y hy; go_simp; try rfl) ?_; simp only [Act.put, List.setIfInBounds_toArray, List.set_cons_zero, List.set_cons_succ])
  rw [show IntKind.u32.wrap len = len % 4294967296 by simp [IntKind.wrap, IntKind.bits, IntKind.signed], show IntKind.u8.wrap next = next % 256 by simp [IntKind.wrap, IntKind.bits, IntKind.signed]]
  have hl2 : 0 ≤ len % 4294967296 ∧ len % 4294967296 < 4294967296 := by omega
  have hx2 : 0 ≤ next % 256 ∧ next % 256 < 256 := by omega
  have HP := Lib.hid (show pseudoL s d len next = s ++ d ++ four (len % 4294967296) ++ [0, 0, 0, next % 256] from rfl)
  generalize len % 4294967296 = l4 at *
  generalize next % 256 = x1 at *
  refine walkP_fork ?one ?two
  case' one =>
    refine walkP_act rfl (by rfl) (fun K hK => ?_)
    go_simp
    refine (put32_any none 0 0 l4 [] w2 (by omega) hl2 (Bs.nil _ _ _)).mono ?_
    rintro e w3 ⟨v, rfl, g3, rfl, hg3, hk3, hl3, ha3, hl⟩
    go_simp
    refine hK _ _ hl ?_
    clear hK K
    replace hL := hL.trans hl
    replace hS := hS.below' hl hl.size
    replace hD := hD.below' hl hl.size
    have hb3 := hk3.bs ha3 hk3.lt hl3
    clear hl hk3 ha3 hl3 hg3
    refine walkP_act rfl (by rfl) (fun K hK => ?_)
    go_simp
    refine hK _ _ (Low.alloc _ _) ?_
    clear hK K
    have hl := Low.alloc w3 (.cells #[.int .u8 0, .int .u8 0, .int .u8 0, .int .u8 x1] 5)
    have hk4 := Blk.new w3 5 [0, 0, 0, x1]
    replace hk4 : Blk (w3.alloc (.cells #[.int .u8 0, .int .u8 0, .int .u8 0, .int .u8 x1] 5)) 5 w3.heap.size [0, 0, 0, x1] := hk4
    replace hL := hL.trans hl
    replace hS := hS.below' hl hl.size
    replace hD := hD.below' hl hl.size
    replace hb3 := hb3.below' hl hl.size
    have hb4 := hk4.bs (.cons (by omega) (by omega) (.cons (by omega) (by omega) (.cons (by omega) (by omega) (.cons hx2.1 hx2.2 .nil)))) hk4.lt rfl
    clear hl hk4
    generalize w3.alloc (.cells #[.int .u8 0, .int .u8 0, .int .u8 0, .int .u8 x1] 5) = w5 at *
    generalize w3.heap.size = g4 at *
  case' two =>
    refine walkP_act rfl (by rfl) (fun K hK => ?_)
    go_simp
    refine hK _ _ (Low.alloc _ _) ?_
    clear hK K
    have hl := Low.alloc w2 (.cells #[.int .u8 0, .int .u8 0, .int .u8 0, .int .u8 x1] 5)
    have hk4 := Blk.new w2 5 [0, 0, 0, x1]
    replace hk4 : Blk (w2.alloc (.cells #[.int .u8 0, .int .u8 0, .int .u8 0, .int .u8 x1] 5)) 5 w2.heap.size [0, 0, 0, x1] := hk4
    replace hL := hL.trans hl
    replace hS := hS.below' hl hl.size
    replace hD := hD.below' hl hl.size
    have hb4 := hk4.bs (.cons (by omega) (by omega) (.cons (by omega) (by omega) (.cons (by omega) (by omega) (.cons hx2.1 hx2.2 .nil)))) hk4.lt rfl
    clear hl hk4
    generalize w2.alloc (.cells #[.int .u8 0, .int .u8 0, .int .u8 0, .int .u8 x1] 5) = w4 at *
    generalize w2.heap.size = g4 at *
    refine walkP_act rfl (by rfl) (fun K hK => ?_)
    go_simp
    refine (put32_any none 0 0 l4 [] w4 (by omega) hl2 (Bs.nil _ _ _)).mono ?_
    rintro e w5 ⟨v, rfl, g3, rfl, hg3, hk3, hl3, ha3, hl⟩
    go_simp
    refine hK _ _ hl ?_
    clear hK K
    replace hL := hL.trans hl
    replace hS := hS.below' hl hl.size
    replace hD := hD.below' hl hl.size
    replace hb4 := hb4.below' hl hl.size
    have hb3 := hk3.bs ha3 hk3.lt hl3
    clear hl hk3 ha3 hl3 hg3
  all_goals
    refine walkP_act rfl (by rfl) (fun K hK => ?_)
    go_simp
    refine hK _ _ (Low.alloc _ _) ?_
    clear hK K
    replace hb3 : Bs w5 w5.heap.size (some ⟨g3, 0, none⟩) 4 (four l4) := hb3
    replace hb4 : Bs w5 w5.heap.size (some ⟨g4, 0, none⟩) 4 [0, 0, 0, x1] := hb4
    have hl := Low.alloc w5 (.cells #[.slice (some ⟨gs, 0, none⟩) 16 16, .slice (some ⟨gs + 1, 0, none⟩) 16 16, .slice (some ⟨g3, 0, none⟩) 4 4, .slice (some ⟨g4, 0, none⟩) 4 4] 27)
    have hrow := heap_alloc_new w5 (.cells #[.slice (some ⟨gs, 0, none⟩) 16 16, .slice (some ⟨gs + 1, 0, none⟩) 16 16, .slice (some ⟨g3, 0, none⟩) 4 4, .slice (some ⟨g4, 0, none⟩) 4 4] 27 (0, 0))
    replace hL := hL.trans hl
    replace hS := hS.below' hl hl.size
    replace hD := hD.below' hl hl.size
    replace hb3 := hb3.below' hl hl.size
    replace hb4 := hb4.below' hl hl.size
    clear hl
    generalize w5.alloc (.cells #[.slice (some ⟨gs, 0, none⟩) 16 16, .slice (some ⟨gs + 1, 0, none⟩) 16 16, .slice (some ⟨g3, 0, none⟩) 4 4, .slice (some ⟨g4, 0, none⟩) 4 4] 27) = w6 at *
    generalize w5.heap.size = g6 at *
    have hR := Row.four hrow hS hD hb3 hb4
    have HQ := Lib.hid (jnAll_four hS.all hD.all hb3.all hb4.all (by rw [HS.out]) (by rw [HD.out]) (by simp [four]))
    rw [← HP.out] at HQ
    clear hrow hS hD hb3 hb4
    refine walkP_act rfl (by rfl) (fun K hK => ?_)
    go_simp
    refine (total_any _ 4 4 _ _ w6 rfl (by omega) hR (fun i hi => by match i, hi with | 0, _ => exact (by decide : 16 ≤ 140737488355328) | 1, _ => exact (by decide : 16 ≤ 140737488355328) | 2, _ => exact (by decide : 4 ≤ 140737488355328) | 3, _ => exact (by decide : 4 ≤ 140737488355328))).mono ?_
    rintro e w7 ⟨rfl, hl⟩
    go_simp
    refine hK _ _ hl ?_
    clear hK K hR
    replace hL := hL.trans hl
    clear hl
    iterate 1 (refine walkP_read (v := _) rfl (by rfl) (by intro y hy; go_simp; try rfl) ?_; simp only [Act.put, List.setIfInBounds_toArray, List.set_cons_zero, List.set_cons_succ])
    unfold walkP
    go_wp2
    go_ret
    exact ⟨ret_i HQ.out, hL⟩
end Go.Proofs.Ytheagbgojdlfaaa
