/- Segments of our own in memory, and what sid.Split and Is tell. Condition: an address is 16 bytes. -/
import Derived.Test.YtjlanbfkpaagdaaDoorSdF
namespace Go.Proofs.YtjlanbfkpaagdaaDoor
open Go.RowKit
set_option linter.unusedVariables false

/-- a segment: its node, what it is to do, its number -/
structure Sd where
  n : Int
  d : Int
  a : Int
def sdC (x : Sd) : List Value := [.int .i64 x.n, .int .i64 x.d, .int .u32 x.a]
def BlkD (w : World) (g : Nat) (x : Sd) : Prop := BlkV w 24 g (sdC x)
def zeroSd : Sd := ⟨0, 0, 0⟩
theorem BlkD.lt {w : World} {g : Nat} {x : Sd} (h : BlkD w g x) : g < w.heap.size := BlkV.lt h
theorem BlkD.below {w w' : World} {g B : Nat} {x : Sd} (h : BlkD w g x) (hb : Below B w w') (hg : g < B) : BlkD w' g x := BlkV.below h hb hg
theorem sid_size : (Tryd.prog.info? 24).map (·.size) = some 3 := by kernel_rfl
theorem sid_zero : (Tryd.prog.info? 24).map (·.zero) = some (some (.agg (sdC zeroSd).toArray)) := by kernel_rfl
theorem sdC_one (x : Sd) : (sdC x).toArray.all (·.oneCell') = true := by simp [sdC, Value.oneCell']
section
variable {ops : Array Oper} {rest : List Oper} {o : Oper} {a : Act} {w : World} {Q : Exit → Act → World → Prop}
theorem wpList_load_sd (hgd : o.guard = none) (x : Operand) (ho : o.op = .load 24 x) (g : Nat) (hx : a.eval x = .pointer (some ⟨g, 0, none⟩)) (s : Sd) (hb : BlkD w g s)
    (hk : wpList Tryd.prog ops Q rest (a.put o.dst (.agg (sdC s).toArray)) w) : wpList Tryd.prog ops Q (o :: rest) a w :=
  wpList_load_row hgd 24 x ho g hx _ (sdC s).toArray (0, 0) _ hb Tryd.underlying24 rfl (by rw [sid_size]; rfl) hk
theorem wpList_load_sd_g (hw : Region.wanted o (yielded ops a.tmps) = true) (x : Operand) (ho : o.op = .load 24 x) (g : Nat) (hx : a.eval x = .pointer (some ⟨g, 0, none⟩)) (s : Sd) (hb : BlkD w g s)
    (hk : wpList Tryd.prog ops Q rest (a.put o.dst (.agg (sdC s).toArray)) w) : wpList Tryd.prog ops Q (o :: rest) a w :=
  wpList_step fun K hK => by
    simp only [hw, if_true]
    exact wp_load_row 24 x ho g hx _ (sdC s).toArray (0, 0) _ hb Tryd.underlying24 rfl (by rw [sid_size]; rfl) (hK _ _ hk)
theorem wpList_store_sd (hgd : o.guard = none) (x y : Operand) (ho : o.op = .store 24 x y) (g : Nat) (hx : a.eval x = .pointer (some ⟨g, 0, none⟩)) (s : Sd) (hy : a.eval y = .agg (sdC s).toArray) (old : Sd) (hb : BlkD w g old)
    (hk : ∀ w', BlkD w' g s → Below g w w' → w'.heap.size = w.heap.size → wpList Tryd.prog ops Q rest (a.put o.dst undef) w') : wpList Tryd.prog ops Q (o :: rest) a w :=
  wpList_store_v hgd 24 x y ho g hx (sdC s) hy _ (sdC old) hb rfl (by rw [sid_size]; rfl) (sdC_one s) hk
theorem wpList_alloc_sd (hgd : o.guard = none) (ho : o.op = .alloc 24)
    (hk : ∀ w', BlkD w' w.heap.size zeroSd → Low w w' → w'.heap.size = w.heap.size + 1 → wpList Tryd.prog ops Q rest (a.put o.dst (.pointer (some ⟨w.heap.size, 0, none⟩))) w') : wpList Tryd.prog ops Q (o :: rest) a w :=
  wpList_alloc_v hgd 24 ho (sdC zeroSd) sid_zero hk
theorem wpList_box_sd (hgd : o.guard = none) (x : Operand) (ho : o.op = .box 24 x) (s : Sd) (hx : a.eval x = .agg (sdC s).toArray)
    (hk : ∀ w', BlkD w' w.heap.size s → Low w w' → w'.heap.size = w.heap.size + 1 → wpList Tryd.prog ops Q rest (a.put o.dst (.pointer (some ⟨w.heap.size, 0, none⟩))) w') : wpList Tryd.prog ops Q (o :: rest) a w :=
  wpList_box_v hgd 24 x ho (sdC s) hx hk
theorem wpList_box_ad {s : List Int} (hgd : o.guard = none) (x : Operand) (ho : o.op = .box 26 x) (hx : a.eval x = .agg (cellsB s).toArray)
    (hk : ∀ w', Blk w' 26 w.heap.size s → Low w w' → w'.heap.size = w.heap.size + 1 → wpList Tryd.prog ops Q rest (a.put o.dst (.pointer (some ⟨w.heap.size, 0, none⟩))) w') : wpList Tryd.prog ops Q (o :: rest) a w :=
  wpList_box_v hgd 26 x ho (cellsB s) hx hk
end
theorem exec_load_sd {f : Operand → Value} {dd : Option Tmp} {x : Operand} {ty : TypeId} {pos : String} {gd : Option (Nat × Bool)} {w : World} {g : Nat} {s : Sd} (hx : f x = .pointer (some ⟨g, 0, none⟩)) (h : BlkD w g s) :
    (execOp f ⟨dd, .load 24 x, ty, pos, #[], gd⟩).run Tryd.prog w = .ok (.value (.agg (sdC s).toArray)) w := by
  unfold execOp
  simp only [hx, Instr.loadAt, Instr.sureAddr, Sem.run_bind, Sem.run_pure, Result.andThen_ok, run_loadVar_row w g _ 24 (sdC s).toArray _ _ h Tryd.underlying24 rfl (by rw [sid_size]; rfl)]
theorem ret_sd {fn : Func} {p q : Tmp} {R : Ending → World → Prop} {tmps : Array Value} {df : List Deferred} {w : World} {g : Nat} {s : Sd} {b : Value} (hfn : fn.results = #[.cell p 24, .tmp q]) (hp : tmps.getD p undef = .pointer (some ⟨g, 0, none⟩)) (hq : tmps.getD q undef = b)
    (hb : BlkD w g s) (hR : R (.returned (.tuple #[.agg (sdC s).toArray, b])) w) (hd : df = []) : bodyPost Tryd.prog fn R .ret ⟨tmps, df⟩ w :=
  bodyPost_ret (results_cell_tmp hfn tmps w g _ _ _ _ _ hp hq hb Tryd.underlying24 rfl (by rw [sid_size]; rfl)) hd hR
/-- segments are compared -/
def eqD (a b : Sd) : Bool := a.n == b.n && a.d == b.d && a.a == b.a
theorem eqD_refl (a : Sd) : eqD a a = true := by simp [eqD]
theorem eq_sd (a b : Sd) (w : World) : (Op.equalIn 10000 24 (.agg #[.int .i64 a.n, .int .i64 a.d, .int .u32 a.a]) (.agg #[.int .i64 b.n, .int .i64 b.d, .int .u32 b.a])).run Tryd.prog w = .ok (eqD a b) w := by
  obtain ⟨a1, a2, a3⟩ := a
  obtain ⟨b1, b2, b3⟩ := b
  rw [run_equalIn_struct w 9999 24 _ _ (by simp only [Program.fieldsOf, Tryd.underlying24]) (by kernel_rfl)]
  simp only [Program.fieldsOf, Tryd.underlying24]
  have hp : ∀ (k : Nat) (cs : Array Value) (v : Value), cs[k]? = some v → (part 3 cs k).run Tryd.prog w = .ok v w := fun k cs v h => by simp [part, isAgg, run_underlying Tryd.underlying3, h]
  have hu : ∀ (k : Nat) (cs : Array Value) (v : Value), cs[k]? = some v → (part 22 cs k).run Tryd.prog w = .ok v w := fun k cs v h => by simp [part, isAgg, run_underlying Tryd.underlying22, h]
  have he : ∀ x y : Int, (Op.equalIn 9999 3 (.int .i64 x) (.int .i64 y)).run Tryd.prog w = .ok (x == y) w := fun x y => run_equalIn_int w 9998 _ _ _ x y Tryd.underlying3
  have hf : ∀ x y : Int, (Op.equalIn 9999 22 (.int .u32 x) (.int .u32 y)).run Tryd.prog w = .ok (x == y) w := fun x y => run_equalIn_int w 9998 _ _ _ x y Tryd.underlying22
  rw [eqFields_step (by simp) (hp 0 _ (.int .i64 a1) rfl) (hp 0 _ (.int .i64 b1) rfl) (he a1 b1),
    eqFields_step (by simp) (hp 1 _ (.int .i64 a2) rfl) (hp 1 _ (.int .i64 b2) rfl) (he a2 b2),
    eqFields_step (by simp) (hu 2 _ (.int .u32 a3) rfl) (hu 2 _ (.int .u32 b3) rfl) (hf a3 b3)]
  simp only [Op.eqFields, Sem.run_pure, eqD]
  generalize (a1 == b1) = x1
  generalize (a2 == b2) = x2
  generalize (a3 == b3) = x3
  cases x1 <;> cases x2 <;> cases x3 <;> rfl

/-- the segment whose bytes these may be; are they? what is told -/
def sdOf (s : List Int) : Sd := ⟨num2 s 8, s.getD 10 0, num4 s 12⟩
def backD (s : List Int) : List Int := laidD (num2 s 8) (s.getD 10 0) (num4 s 12)
def isD (s : List Int) : Bool := backD s == s
def splitD (s : List Int) : Sd := if isD s = true then sdOf s else zeroSd
theorem sdOf_can (s : List Int) (vs : AllB s) : canD (num2 s 8) (s.getD 10 0) = true := by
  have := vs.getD 8
  have := vs.getD (8 + 1)
  have := vs.getD 10
  unfold canD num2
  rw [decide_eq_true]
  omega
theorem sdOf_arg (s : List Int) (vs : AllB s) : 0 ≤ num4 s 12 ∧ num4 s 12 < 4294967296 := by
  have := vs.getD 12
  have := vs.getD (12 + 1)
  have := vs.getD (12 + 2)
  have := vs.getD (12 + 3)
  unfold num4
  omega
theorem neq_list {s d : List Int} : (s == d) = false ↔ s ≠ d := by simp

set_option maxRecDepth 100000 in
set_option maxHeartbeats 3200000 in
theorem split_any (s : List Int) (w : World) (hs : s.length = 16) (vs : AllB s) :
    Calls Tryd.prog 13 #[addrV s] w fun e w' => e = .returned (.tuple #[.agg (sdC (splitD s)).toArray, .bool (isD s)]) ∧ Below w.heap.size w w' := by
  unfold addrV
  have HS := Lib.hid hs
  have HV := Lib.hid vs
  have HC := Lib.hid (show makeD (num2 s 8) (s.getD 10 0) (num4 s 12) = backD s ∧ errD (num2 s 8) (s.getD 10 0) = 0 by
    unfold makeD errD backD
    rw [sdOf_can s vs]
    exact ⟨rfl, rfl⟩)
  have HM := Lib.hid (fun w => sidmake_any (num2 s 8) (s.getD 10 0) (num4 s 12) w (sdOf_arg s vs))
  have HBL := Lib.hid (show (backD s).length = 16 from rfl)
  unfold sidV at HM
  clear hs vs
  go_enter Tryd.func13, Tryd.ntmps13
  go_wp2_with (first | ((with_reducible refine wpList_box_ad rfl (.tmp 0) rfl rfl ?_); intro w1 HB hL hz1) | ((with_reducible refine wpList_alloc_sd rfl rfl ?_); intro w2 HZ hl hz2; refine Hid.out ?_))
  refine Lib.hid ?_
  rw [hz1] at HZ
  replace HZ := Lib.hid HZ
  replace HB := Lib.hid (HB.below hl HB.lt)
  replace hL := hL.trans hl
  clear hl hz1 hz2
  go_wp2_with fail
  refine (u16_yes (some ⟨w.heap.size, 0, none⟩) 16 16 8 8 s w2 (by omega) (HB.out.bs HV.out HB.out.lt HS.out) rfl (by omega)).mono ?_
  rintro e w3 ⟨rfl, k3, hk3⟩
  have hl : Low w2 w3 := by rw [hk3]; exact below_drewN (Below.refl _ _) _
  replace HB := Lib.hid (HB.out.below hl HB.out.lt)
  replace HZ := Lib.hid (HZ.out.below hl HZ.out.lt)
  replace hL := hL.trans hl
  clear hl hk3
  go_wp2_with fail
  refine (u32_yes (some ⟨w.heap.size, 0, none⟩) 16 16 12 12 s w3 (by omega) (HB.out.bs HV.out HB.out.lt HS.out) rfl (by omega)).mono ?_
  rintro e w4 ⟨rfl, k4, hk4⟩
  have hl : Low w3 w4 := by rw [hk4]; exact below_drewN (Below.refl _ _) _
  replace HB := Lib.hid (HB.out.below hl HB.out.lt)
  replace HZ := Lib.hid (HZ.out.below hl HZ.out.lt)
  replace hL := hL.trans hl
  clear hl hk4
  have c10 : w4.cell? ⟨w.heap.size, 10, none⟩ = some (.int .u8 (s.getD 10 0)) := by rw [HB.out.cell 10]; exact cellsB_get (by have := HS.out; omega)
  have q10 : IntKind.i64.wrap (s.getD 10 0) = s.getD 10 0 := by have := HV.out.getD 10; rw [IntKind.wrap_i64]; omega
  obtain ⟨n, hn⟩ : ∃ n, n = num2 s 8 := ⟨_, rfl⟩
  obtain ⟨d, hd⟩ : ∃ d, d = s.getD 10 0 := ⟨_, rfl⟩
  obtain ⟨a, ha⟩ : ∃ a, a = num4 s 12 := ⟨_, rfl⟩
  rw [← hd] at c10 q10
  rw [← hn, ← hd, ← ha] at HC HM
  rw [← hn, ← ha]
  have HX := Lib.hid (show (⟨n, d, a⟩ : Sd) = sdOf s by rw [hn, hd, ha]; rfl)
  clear hn hd ha
  go_wp2_with ((with_reducible refine wpList_alloc_sd rfl rfl ?_); intro w5 HY hl hz5; refine Hid.out ?_)
  refine Lib.hid ?_
  replace HY := Lib.hid HY
  have hlb := HB.out.lt
  have hlz := HZ.out.lt
  replace HB := Lib.hid (HB.out.below hl HB.out.lt)
  replace HZ := Lib.hid (HZ.out.below hl HZ.out.lt)
  go_wp2_with ((with_reducible refine wpList_store_sd rfl (.tmp 8) (.tmp 26) rfl w4.heap.size rfl ⟨n, d, a⟩ rfl _ HY.out ?_); intro w6 HK hb6 hz6; refine Hid.out ?_)
  refine Lib.hid ?_
  replace HK := Lib.hid HK
  replace HB := Lib.hid (HB.out.below hb6 hlb)
  replace HZ := Lib.hid (HZ.out.below hb6 hlz)
  replace hl : Low w4 w6 := Below.trans hl hb6
  replace hL := hL.trans hl
  obtain ⟨G, hG⟩ : ∃ g, g = w4.heap.size := ⟨_, rfl⟩
  rw [← hG] at HK ⊢
  clear HY hz5 hz6 hb6 hl hlb hlz hG c10 q10
  go_wp2_with (with_reducible refine wpList_load_sd rfl (.tmp 8) rfl G rfl ⟨n, d, a⟩ HK.out ?_)
  refine (HM.out w6).mono ?_
  rintro e w7 ⟨rfl, hl⟩
  rw [HC.out.1, HC.out.2]
  replace HB := Lib.hid (HB.out.below hl HB.out.lt)
  replace HZ := Lib.hid (HZ.out.below hl HZ.out.lt)
  replace HK := Lib.hid (HK.out.below hl HK.out.lt)
  replace hL := hL.trans hl
  clear hl HM HC
  obtain ⟨x, hx⟩ : ∃ x, x = backD s := ⟨_, rfl⟩
  rw [← hx] at HBL ⊢
  have HIS := Lib.hid (show isD s = (x == s) by rw [hx]; rfl)
  clear hx
  unfold addrV
  go_wp2_with ((with_reducible refine wpList_alloc_v rfl 26 rfl (cellsB zero16) addr_zeroD ?_); intro w8 HY hl hz5; refine Hid.out ?_)
  refine Lib.hid ?_
  replace HY : Hid (Blk w8 26 w7.heap.size zero16) := Lib.hid HY
  have hlb := HB.out.lt
  have hlz := HZ.out.lt
  have hlk := HK.out.lt
  replace HB := Lib.hid (HB.out.below hl HB.out.lt)
  replace HZ := Lib.hid (HZ.out.below hl HZ.out.lt)
  replace HK := Lib.hid (HK.out.below hl HK.out.lt)
  go_wp2_with ((with_reducible refine wpList_store_addr rfl (.tmp 9) (.tmp 30) rfl w7.heap.size rfl x rfl _ zero16 HY.out rfl HBL.out ?_); intro w9 HR hb6 hz6; refine Hid.out ?_)
  refine Lib.hid ?_
  replace HR := Lib.hid HR
  replace HB := Lib.hid (HB.out.below hb6 hlb)
  replace HZ := Lib.hid (HZ.out.below hb6 hlz)
  replace HK := Lib.hid (HK.out.below hb6 hlk)
  replace hl : Low w7 w9 := Below.trans hl hb6
  replace hL := hL.trans hl
  clear HY hz5 hz6 hb6 hl hlb hlz hlk
  have hlz := HZ.out.lt
  have heq := eq_addr x s HBL.out HS.out
  cases hb : (x == s)
  · have HI := Lib.hid (show isD s = false by rw [HIS.out, hb])
    have HSP := Lib.hid (show splitD s = zeroSd by unfold splitD; rw [HI.out]; rfl)
    simp only [hb] at heq
    clear hb HIS
    go_wp2_with (first | (with_reducible refine wpList_load_addr rfl (.tmp 9) rfl w7.heap.size rfl 26 x HR.out HBL.out ?_) | (with_reducible refine wpList_load_addr rfl (.tmp 1) rfl w.heap.size rfl 26 s HB.out HS.out ?_) | ((refine wpList_store_sd rfl (.tmp 2) (.tmp 35) rfl (w.heap.size + 1) rfl zeroSd rfl _ HZ.out ?_); intro w10 HG hb10 hz10; refine Hid.out ?_))
    refine Lib.hid ?_
    replace HG := Lib.hid HG
    go_wp2_with fail
    exact ret_sd Tryd.results13 rfl rfl HG.out ⟨by rw [HI.out, HSP.out]; rfl, Below.trans hL (hb10.mono (by omega))⟩ rfl
  · have HI := Lib.hid (show isD s = true by rw [HIS.out, hb])
    have HSP := Lib.hid (show splitD s = ⟨n, d, a⟩ by unfold splitD; rw [HI.out, HX.out]; rfl)
    simp only [hb] at heq
    clear hb HIS
    go_wp2_with (first | (with_reducible refine wpList_load_addr rfl (.tmp 9) rfl w7.heap.size rfl 26 x HR.out HBL.out ?_) | (with_reducible refine wpList_load_addr rfl (.tmp 1) rfl w.heap.size rfl 26 s HB.out HS.out ?_) | (with_reducible refine wpList_load_sd rfl (.tmp 8) rfl G rfl ⟨n, d, a⟩ HK.out ?_) | ((refine wpList_store_sd rfl (.tmp 2) (.tmp 36) rfl (w.heap.size + 1) rfl ⟨n, d, a⟩ rfl _ HZ.out ?_); intro w10 HG hb10 hz10; refine Hid.out ?_))
    refine Lib.hid ?_
    replace HG := Lib.hid HG
    go_wp2_with fail
    exact ret_sd Tryd.results13 rfl rfl HG.out ⟨by rw [HI.out, HSP.out]; rfl, Below.trans hL (hb10.mono (by omega))⟩ rfl
end Go.Proofs.YtjlanbfkpaagdaaDoor
