/- What the first eight bytes, Make and Node tell. No condition beyond the arguments' types. -/
import Derived.Test.YtjlanbfkpaagdaaDoorVals
import Derived.Test.YtjlanbfkpaagdaaDoorSdB
namespace Go.Proofs.YtjlanbfkpaagdaaDoor
open Go.RowKit
set_option linter.unusedVariables false

/-- can a segment be? its address, else the zero one; the error's number -/
def canD (n d : Int) : Bool := decide (0 ≤ n ∧ n ≤ 65535 ∧ 0 ≤ d ∧ d ≤ 255)
def head8D : List Int := [253, 108, 0, 98, 0, 0, 0, 0]
def laidD (n d a : Int) : List Int := head8D ++ two n ++ [d, 0] ++ four a
def makeD (n d a : Int) : List Int := if canD n d = true then laidD n d a else zero16
def errD (n d : Int) : Int := if canD n d = true then 0 else 2
theorem head8D_all : AllB head8D := fun x hx => by
  have : x = 253 ∨ x = 108 ∨ x = 0 ∨ x = 98 := by simp [head8D] at hx; omega
  omega
theorem laidD_len (n d a : Int) : (laidD n d a).length = 16 := rfl
theorem makeD_len (n d a : Int) : (makeD n d a).length = 16 := by unfold makeD; split <;> rfl
theorem laidD_all (n d a : Int) (hd : 0 ≤ d ∧ d < 256) (ha : 0 ≤ a ∧ a < 4294967296) : AllB (laidD n d a) :=
  ((head8D_all.append (two_all n)).append (.cons hd.1 hd.2 (.cons (by omega) (by omega) .nil))).append (four_all a ha)
theorem makeD_all (n d a : Int) (ha : 0 ≤ a ∧ a < 4294967296) : AllB (makeD n d a) := by
  unfold makeD
  split
  · rename_i h
    have := of_decide_eq_true h
    exact laidD_all n d a (by omega) ha
  · exact zero_all

theorem ret_addrD {fn : Func} {p q : Tmp} {R : Ending → World → Prop} {tmps : Array Value} {df : List Deferred} {w : World} {g : Nat} {t : TypeId} {s : List Int} {b : Value} (hfn : fn.results = #[.cell p 26, .tmp q]) (hp : tmps.getD p undef = .pointer (some ⟨g, 0, none⟩)) (hq : tmps.getD q undef = b)
    (hb : Blk w t g s) (hs : s.length = 16) (hR : R (.returned (.tuple #[addrV s, b])) w) (hd : df = []) : bodyPost Tryd.prog fn R .ret ⟨tmps, df⟩ w :=
  bodyPost_ret (results_cell_tmp hfn tmps w g _ _ _ _ _ hp hq hb Tryd.underlying26 rfl (by rw [addr_size]; simp [cellsB_length, hs])) hd hR
theorem ret_addr1D {fn : Func} {p : Tmp} {R : Ending → World → Prop} {tmps : Array Value} {df : List Deferred} {w : World} {g : Nat} {t : TypeId} {s : List Int} (hfn : fn.results = #[.cell p 26]) (hp : tmps.getD p undef = .pointer (some ⟨g, 0, none⟩))
    (hb : Blk w t g s) (hs : s.length = 16) (hR : R (.returned (addrV s)) w) (hd : df = []) : bodyPost Tryd.prog fn R .ret ⟨tmps, df⟩ w :=
  bodyPost_ret (v := .agg (cellsB s).toArray) (results_cell_row hfn _ _ g _ _ _ _ hp hb Tryd.underlying26 rfl (by rw [addr_size]; simp [cellsB_length, hs])) hd hR
theorem addr_zeroD : (Tryd.prog.info? 26).map (·.zero) = some (some (.agg (cellsB zero16).toArray)) := by kernel_rfl

set_option maxHeartbeats 800000 in
theorem sidpre_any (w : World) : Calls Tryd.prog 18 #[] w fun e w' => ∃ v, e = .returned v ∧ NewB 5 w 8 head8D v w' := by
  go_enter Tryd.func18, Tryd.ntmps18
  go_wp2_with fail
  go_ret
  exact ⟨_, rfl, w.heap.size, rfl, Nat.le_refl _, Blk.new w 5 head8D, rfl, head8D_all, Low.alloc w _⟩

set_option maxRecDepth 100000 in
set_option maxHeartbeats 3200000 in
theorem make_no (n d a : Int) (w : World) (h : canD n d = false) :
    Calls Tryd.prog 6 #[sidV n d a] w fun e w' => e = .returned (.tuple #[addrV zero16, .int .i64 2]) ∧ Below w.heap.size w w' := by
  have hc : ¬ (0 ≤ n ∧ n ≤ 65535 ∧ 0 ≤ d ∧ d ≤ 255) := of_decide_eq_false h
  have key : n < 0 ∨ (0 ≤ n ∧ 65535 < n) ∨ (0 ≤ n ∧ n ≤ 65535 ∧ d < 0) ∨ (0 ≤ n ∧ n ≤ 65535 ∧ 0 ≤ d ∧ 255 < d) := by omega
  clear h hc
  unfold sidV
  rcases key with h1 | h1 | h1 | h1
  all_goals
    go_enter Tryd.func6, Tryd.ntmps6
    go_wp2_with (first | ((with_reducible refine wpList_box_v rfl 24 (.tmp 0) rfl [.int .i64 n, .int .i64 d, .int .u32 a] rfl ?_); intro w1 HB hL hz1) | ((with_reducible refine wpList_alloc_v rfl 26 rfl (cellsB zero16) addr_zeroD ?_); intro w2 HZ0 hL2 hz2; refine Hid.out ?_))
    refine Lib.hid ?_
    rw [hz1] at HZ0
    have HZ : Hid (Blk w2 26 (w.heap.size + 1) zero16) := Lib.hid HZ0
    replace HB := HB.below hL2 HB.lt
    replace hL : Low w w2 := hL.trans hL2
    have c0 : w2.cell? ⟨w.heap.size, 0, none⟩ = some (.int .i64 n) := HB.cell 0
    have c1 : w2.cell? ⟨w.heap.size, 1, none⟩ = some (.int .i64 d) := HB.cell 1
    clear HZ0 hz1 hz2 hL2 HB
    go_wp2_with (refine wpList_store_addr rfl (.tmp 2) (.tmp 23) rfl (w.heap.size + 1) rfl zero16 rfl _ zero16 HZ.out rfl rfl ?_; intro w4 HG hb4 hz4; refine Hid.out ?_)
    refine Lib.hid ?_
    replace HG := Lib.hid HG
    go_wp2_with fail
    exact ret_addrD Tryd.results6 rfl rfl HG.out rfl ⟨rfl, Below.trans hL (hb4.mono (by omega))⟩ rfl

theorem run_sixteenD (b o : Nat) (u : World) : (Instr.arrayAt 26 (.slice (some ⟨b, o, none⟩) 16 16)).run Tryd.prog u = .ok (.pointer (some ⟨b, o, none⟩)) u := by kernel_rfl
set_option maxRecDepth 100000 in
set_option maxHeartbeats 6400000 in
theorem make_yes (n d a : Int) (w : World) (h : canD n d = true) (ha : 0 ≤ a ∧ a < 4294967296) :
    Calls Tryd.prog 6 #[sidV n d a] w fun e w' => e = .returned (.tuple #[addrV (laidD n d a), .int .i64 0]) ∧ Below w.heap.size w w' := by
  have hc : 0 ≤ n ∧ n ≤ 65535 ∧ 0 ≤ d ∧ d ≤ 255 := of_decide_eq_true h
  have h1 : 0 ≤ n := hc.1
  have h2 : n ≤ 65535 := hc.2.1
  have h3 : 0 ≤ d := hc.2.2.1
  have h4 : d ≤ 255 := hc.2.2.2
  have HA := Lib.hid ha
  clear h hc ha
  unfold sidV
  go_enter Tryd.func6, Tryd.ntmps6
  go_wp2_with (first | ((with_reducible refine wpList_box_v rfl 24 (.tmp 0) rfl [.int .i64 n, .int .i64 d, .int .u32 a] rfl ?_); intro w1 HB hL hz1) | ((with_reducible refine wpList_alloc_v rfl 26 rfl (cellsB zero16) addr_zeroD ?_); intro w2 HZ0 hL2 hz2; refine Hid.out ?_))
  refine Lib.hid ?_
  rw [hz1] at HZ0
  have HZ : Hid (Blk w2 26 (w.heap.size + 1) zero16) := Lib.hid HZ0
  replace HB := HB.below hL2 HB.lt
  replace hL : Low w w2 := hL.trans hL2
  have hlt := HB.lt
  have c0 : w2.cell? ⟨w.heap.size, 0, none⟩ = some (.int .i64 n) := HB.cell 0
  have c1 : w2.cell? ⟨w.heap.size, 1, none⟩ = some (.int .i64 d) := HB.cell 1
  replace HB := Lib.hid HB
  clear HZ0 hz1 hz2 hL2
  go_wp2_with fail
  refine wp_region_plan (.rd 1 (.rd 2 (.act 0 (.act 3 (.rd 4 (.done))))))
    (by kernel_rfl) (by kernel_rfl) (fun _ _ d _ _ h => by cases d <;> exact h) (by kernel_rfl) ?_
  have hDR : Low w2 w2.drew := Below.drew (Below.refl _ _)
  replace hL := hL.trans hDR
  replace c0 : w2.drew.cell? _ = _ := c0
  replace HB : Hid (BlkV w2.drew 24 w.heap.size _) := HB
  replace HZ : Hid (Blk w2.drew 26 (w.heap.size + 1) zero16) := HZ
  replace hlt : w.heap.size < w2.drew.heap.size := hlt
  clear hDR c1
  generalize w2.drew = w3 at *
  iterate 2 (refine walkP_read (v := _) rfl (by rfl) (by
      intro y hy
      have e0 := (hy.cell (p := ⟨w.heap.size, 0, none⟩) hlt).trans c0
      go_simp; try rfl) ?_; simp only [Act.put, List.setIfInBounds_toArray, List.set_cons_zero, List.set_cons_succ])
  clear c0 hlt
  refine walkP_act rfl (by rfl) (fun K hK => ?_)
  go_simp
  refine (sidpre_any w3).mono ?_
  rintro e w4 ⟨v, rfl, g4, rfl, hg4, hk4, hl4, ha4, hl⟩
  go_simp
  refine hK _ _ hl ?_
  clear hK K
  replace hL := hL.trans hl
  replace HB := Lib.hid (HB.out.below hl HB.out.lt)
  replace HZ := Lib.hid (HZ.out.below hl HZ.out.lt)
  have hb4 := hk4.bs ha4 hk4.lt hl4
  clear hl hk4 ha4 hl4 hg4
  refine walkP_act rfl (by rfl) (fun K hK => ?_)
  go_simp
  refine (put16_any (some ⟨g4, 0, none⟩) 8 8 n head8D w4 (by omega) (by unfold i64ok; omega) hb4).mono ?_
  rintro e w5 ⟨v, rfl, g5, rfl, hg5, hk5, hl5, ha5, hl⟩
  go_simp
  refine hK _ _ hl ?_
  clear hK K
  replace hL := hL.trans hl
  replace HB := Lib.hid (HB.out.below hl HB.out.lt)
  replace HZ := Lib.hid (HZ.out.below hl HZ.out.lt)
  have HB5 := Lib.hid (hk5.bs ha5 hk5.lt hl5)
  clear hl hk5 ha5 hl5 hg5 hb4
  iterate 1 (refine walkP_read (v := _) rfl (by rfl) (by intro y hy; go_simp; try rfl) ?_; simp only [Act.put, List.setIfInBounds_toArray, List.set_cons_zero, List.set_cons_succ])
  unfold walkP
  have c1 : w5.cell? ⟨w.heap.size, 1, none⟩ = some (.int .i64 d) := HB.out.cell 1
  have k1 : IntKind.u8.wrap d = d := by rw [IntKind.wrap_u8]; omega
  go_wp2_with fail
  have hB : Below w5.heap.size w5 ((w5.alloc (.cells #[.int .u8 d, .int .u8 0] 5)).alloc (.cells #[.slice (some ⟨g5, 0, none⟩) 10 10, .slice (some ⟨w5.heap.size, 0, none⟩) 2 2] 38)) :=
    ((Below.refl _ _).alloc (Nat.le_refl _) _).alloc (by simp) _
  have hk : Blk ((w5.alloc (.cells #[.int .u8 d, .int .u8 0] 5)).alloc (.cells #[.slice (some ⟨g5, 0, none⟩) 10 10, .slice (some ⟨w5.heap.size, 0, none⟩) 2 2] 38)) 5 w5.heap.size [d, 0] := (Blk.new w5 5 [d, 0]).alloc _
  refine (join2 (some ⟨g5, 0, none⟩) (some ⟨w5.heap.size, 0, none⟩) 10 10 2 2 (w5.heap.size + 1) 38 (head8D ++ two n) [d, 0] _ (by omega) ?_ ((HB5.out.below hB).more (by simp; omega)) (hk.bs (.cons (by omega) (by omega) (.cons (by omega) (by omega) .nil)) (by simp; omega) rfl)).mono ?_
  · have := heap_alloc_new (w5.alloc (.cells #[.int .u8 d, .int .u8 0] 5)) (.cells #[.slice (some ⟨g5, 0, none⟩) 10 10, .slice (some ⟨w5.heap.size, 0, none⟩) 2 2] 38 (0, 0))
    simpa using this
  rintro e w6 ⟨v, rfl, hnew⟩
  obtain ⟨g6, rfl, hg6, hk6, hl6, ha6, hl⟩ := hnew.wider hB
  replace hL := hL.trans hl
  replace HB := Lib.hid (HB.out.below hl HB.out.lt)
  replace HZ := Lib.hid (HZ.out.below hl HZ.out.lt)
  have hb6 := hk6.bs ha6 hk6.lt hl6
  clear hl hk6 ha6 hl6 hg6 hB hk hnew c1 HB5 k1 h1 h2 h3 h4
  have c2 : w6.cell? ⟨w.heap.size, 2, none⟩ = some (.int .u32 a) := HB.out.cell 2
  go_wp2_with fail
  refine (put32_any (some ⟨g6, 0, none⟩) 12 12 a _ w6 (by omega) HA.out hb6).mono ?_
  rintro e w7 ⟨v, rfl, g7, rfl, hg7, hk7, hl7, ha7, hl⟩
  replace hL := hL.trans hl
  replace HZ := Lib.hid (HZ.out.below hl HZ.out.lt)
  have HK7 : Hid (Blk w7 5 g7 (laidD n d a)) := Lib.hid hk7
  have harr := run_sixteenD g7 0 w7
  clear hl hk7 ha7 hl7 hg7 c2 hb6
  go_wp2_with (first | (with_reducible refine wpList_load_addr rfl (.tmp 39) rfl g7 rfl 5 (laidD n d a) HK7.out rfl ?_) | (with_reducible refine wpList_store_addr rfl (.tmp 2) (.tmp 40) rfl (w.heap.size + 1) rfl (laidD n d a) rfl _ zero16 HZ.out rfl rfl ?_; intro w8 HG hb8 hz8; refine Hid.out ?_))
  refine Lib.hid ?_
  replace HG := Lib.hid HG
  go_wp2_with fail
  exact ret_addrD Tryd.results6 rfl rfl HG.out rfl ⟨rfl, Below.trans hL (hb8.mono (by omega))⟩ rfl

/-- what Make tells -/
theorem sidmake_any (n d a : Int) (w : World) (ha : 0 ≤ a ∧ a < 4294967296) :
    Calls Tryd.prog 6 #[sidV n d a] w fun e w' => e = .returned (.tuple #[addrV (makeD n d a), .int .i64 (errD n d)]) ∧ Below w.heap.size w w' := by
  cases h : canD n d
  · have e1 : makeD n d a = zero16 := by unfold makeD; rw [h]; rfl
    have e2 : errD n d = 2 := by unfold errD; rw [h]; rfl
    rw [e1, e2]
    exact make_no n d a w h
  · have e1 : makeD n d a = laidD n d a := by unfold makeD; rw [h]; rfl
    have e2 : errD n d = 0 := by unfold errD; rw [h]; rfl
    rw [e1, e2]
    exact make_yes n d a w h ha
end Go.Proofs.YtjlanbfkpaagdaaDoor
