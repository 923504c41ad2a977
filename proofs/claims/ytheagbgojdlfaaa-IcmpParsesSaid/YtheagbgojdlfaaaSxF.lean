/- What six.Get tells of any bytes. Condition: at most 2^47 bytes. -/
import Derived.Test.YtheagbgojdlfaaaSxA
import Derived.Test.YtheagbgojdlfaaaSxB
import Derived.Test.YtheagbgojdlfaaaReg3
namespace Go.Proofs.Ytheagbgojdlfaaa
open Go.RowKit
set_option linter.unusedVariables false

/-- the header that bytes begin with -/
def getL (xs : List Int) : Hd :=
  ⟨xs.getD 0 0 % 16 * 16 + xs.getD 1 0 / 16, xs.getD 1 0 % 16 * 65536 + xs.getD 2 0 * 256 + xs.getD 3 0, xs.getD 4 0 * 256 + xs.getD 5 0, xs.getD 6 0, xs.getD 7 0, (xs.drop 8).take 16, (xs.drop 24).take 16⟩
/-- why there is none -/
def getE (xs : List Int) : Int := if xs.length < 40 then 3 else if xs.getD 0 0 / 16 = 6 then 0 else 5
def getH (xs : List Int) : Hd := if getE xs = 0 then getL xs else zeroH
theorem getL_ok {xs : List Int} (ha : AllB xs) (hl : 40 ≤ xs.length) : (getL xs).ok := by
  have r0 := ha.getD 0
  have r1 := ha.getD 1
  have r2 := ha.getD 2
  have r3 := ha.getD 3
  have r4 := ha.getD 4
  have r5 := ha.getD 5
  have r6 := ha.getD 6
  have r7 := ha.getD 7
  refine ⟨?_, ?_, ?_, ?_, ?_, by simp [getL]; omega, by simp [getL]; omega, (ha.drop 8).take 16, (ha.drop 24).take 16⟩
  all_goals unfold i64ok getL
  all_goals dsimp only
  all_goals omega
theorem getL_can {xs : List Int} (ha : AllB xs) : canB (getL xs) = true := by
  have r0 := ha.getD 0
  have r1 := ha.getD 1
  have r2 := ha.getD 2
  have r3 := ha.getD 3
  have r4 := ha.getD 4
  have r5 := ha.getD 5
  have r6 := ha.getD 6
  have r7 := ha.getD 7
  unfold canB getL
  rw [decide_eq_true_eq]
  dsimp only
  omega
theorem getE_cases (xs : List Int) : (xs.length < 40 ∧ getE xs = 3 ∧ getH xs = zeroH) ∨ (40 ≤ xs.length ∧ xs.getD 0 0 / 16 = 6 ∧ getE xs = 0 ∧ getH xs = getL xs) ∨ (40 ≤ xs.length ∧ ¬ xs.getD 0 0 / 16 = 6 ∧ getE xs = 5 ∧ getH xs = zeroH) := by
  by_cases h1 : xs.length < 40
  · have e : getE xs = 3 := by unfold getE; rw [if_pos h1]
    exact .inl ⟨h1, e, by unfold getH; rw [e]; rfl⟩
  · by_cases h2 : xs.getD 0 0 / 16 = 6
    · have e : getE xs = 0 := by unfold getE; rw [if_neg h1, if_pos h2]
      exact .inr (.inl ⟨by omega, h2, e, by unfold getH; rw [e]; rfl⟩)
    · have e : getE xs = 5 := by unfold getE; rw [if_neg h1, if_neg h2]
      exact .inr (.inr ⟨by omega, h2, e, by unfold getH; rw [e]; rfl⟩)
theorem getH_ok {xs : List Int} (ha : AllB xs) : (getH xs).ok := by
  rcases getE_cases xs with ⟨h1, _, e⟩ | ⟨h1, _, _, e⟩ | ⟨h1, _, _, e⟩
  · rw [e]; exact zeroH_ok
  · rw [e]; exact getL_ok ha h1
  · rw [e]; exact zeroH_ok
/-- a header and a number handed back -/
def GivesH (w : World) (h : Hd) (e : Int) (r : Ending) (w' : World) : Prop := r = .returned (.tuple #[headV h, .int .i64 e]) ∧ Below w.heap.size w w'

theorem ret_head {w' : World} {fn : Func} {p q : Tmp} {tmps : Array Value} {df : List Deferred} {g : Nat} {h : Hd} {e : Int} {R : Ending → World → Prop} (hr : fn.results = #[.cell p 58, .tmp q]) (hp : tmps.getD p undef = .pointer (some ⟨g, 0, none⟩)) (hq : tmps.getD q undef = .int .i64 e)
    (hb : BlkH w' g h) (hs : h.s.length = 16) (hd : h.d.length = 16) (hR : R (.returned (.tuple #[headV h, .int .i64 e])) w') (hdf : df = []) : bodyPost Try.prog fn R .ret ⟨tmps, df⟩ w' := by
  subst hdf
  exact bodyPost_ret (v := .tuple #[.agg (headC h).toArray, .int .i64 e]) (results_cell_tmp hr _ _ g _ _ _ _ _ hp hq hb Try.underlying58 rfl (by rw [head_size]; simp [headC_length hs hd])) rfl hR

theorem first_at (xs : List Int) (ha : AllB xs) : num4 xs 0 / 268435456 = xs.getD 0 0 / 16 ∧ num4 xs 0 / 1048576 % 256 = xs.getD 0 0 % 16 * 16 + xs.getD 1 0 / 16 ∧ num4 xs 0 % 1048576 = xs.getD 1 0 % 16 * 65536 + xs.getD 2 0 * 256 + xs.getD 3 0 ∧ 0 ≤ num4 xs 0 ∧ num4 xs 0 < 4294967296 := by
  have r0 := ha.getD 0
  have r1 := ha.getD 1
  have r2 := ha.getD 2
  have r3 := ha.getD 3
  unfold num4
  simp only [Nat.zero_add]
  omega
theorem and_u32 (k : Nat) (hk : k ≤ 31) (m : Int) (hm : m = 2 ^ k - 1) (n : Int) (h0 : 0 ≤ n) (h1 : n < 4294967296) : bits .and .u32 n m = n % 2 ^ k := by
  have hp : (2 : Int) ^ k ≤ 2 ^ 31 := by
    have := Nat.pow_le_pow_right (show 0 < 2 by omega) hk
    exact_mod_cast this
  have hp0 : (0 : Int) < 2 ^ k := by
    have := Nat.pow_pos (n := k) (show 0 < 2 by omega)
    exact_mod_cast this
  have e : ((2 ^ k : Nat) : Int) = 2 ^ k := by push_cast; rfl
  have h2 : (BitVec.ofInt 32 m).toNat = 2 ^ k - 1 := by
    rw [BitVec.toNat_ofInt, hm]
    have : ((2 : Int) ^ k - 1) % ↑(2 ^ 32 : Nat) = 2 ^ k - 1 := Int.emod_eq_of_lt (by omega) (by omega)
    rw [this, ← e]; omega
  have h3 : (BitVec.ofInt 32 n).toNat = n.toNat := by
    rw [BitVec.toNat_ofInt]
    have : n % ↑(2 ^ 32 : Nat) = n := Int.emod_eq_of_lt h0 (by simpa using h1)
    rw [this]
  have h : ((BitVec.ofInt 32 n &&& BitVec.ofInt 32 m).toNat : Int) = n % 2 ^ k := by
    rw [BitVec.toNat_and, h2, h3, Nat.and_two_pow_sub_one_eq_mod, Int.natCast_emod, Int.toNat_of_nonneg h0, e]
  show IntKind.u32.wrap ((BitVec.ofInt 32 n &&& BitVec.ofInt 32 m).toNat : Int) = _
  rw [h]
  have := Int.emod_nonneg n (show (2 : Int) ^ k ≠ 0 by omega)
  have := Int.emod_lt_of_pos n hp0
  exact wraps_u32 _ (by omega) (by omega)
theorem and255u (n : Int) (h0 : 0 ≤ n) (h1 : n < 4294967296) : bits .and .u32 n 255 = n % 256 := and_u32 8 (by decide) 255 (by decide) n h0 h1
theorem and1048575u (n : Int) (h0 : 0 ≤ n) (h1 : n < 4294967296) : bits .and .u32 n 1048575 = n % 1048576 := and_u32 20 (by decide) 1048575 (by decide) n h0 h1

set_option maxHeartbeats 1600000 in
set_option maxRecDepth 100000 in
theorem get_short (A : Option Addr) (n c : Nat) (xs : List Int) (w : World) (hn : n ≤ 140737488355328) (h1 : n < 40) (hb : Bs w w.heap.size A n xs) :
    Calls Try.prog 43 #[.slice A n c] w fun e w' => GivesH w zeroH 3 e w' := by
  go_enter Try.func43, Try.ntmps43
  go_wp2_with ((with_reducible refine wpList_alloc_v rfl 58 rfl (headC zeroH) (by kernel_rfl) ?_); intro w1 HZ hL hz1; refine Hid.out ?_)
  refine Lib.hid ?_
  replace HZ := Lib.hid HZ
  go_wp2_with ((refine wpList_store_head rfl (.tmp 2) (.tmp 11) rfl w.heap.size rfl zeroH rfl zeroH HZ.out rfl rfl rfl rfl ?_); intro w4 HG hb4 hz4)
  exact ret_head Try.results43 rfl rfl HG rfl rfl ⟨rfl, Below.trans hL hb4⟩ rfl

set_option maxHeartbeats 1600000 in
set_option maxRecDepth 100000 in
theorem get_form (A : Option Addr) (n c : Nat) (xs : List Int) (w : World) (hn : n ≤ 140737488355328) (h1 : 40 ≤ n) (h2 : ¬ xs.getD 0 0 / 16 = 6) (hb : Bs w w.heap.size A n xs) :
    Calls Try.prog 43 #[.slice A n c] w fun e w' => GivesH w zeroH 5 e w' := by
  obtain ⟨f1, f2, f3, f4, f5⟩ := first_at xs hb.all
  rw [← f1] at h2
  clear f1 f2 f3
  go_enter Try.func43, Try.ntmps43
  go_wp2_with ((with_reducible refine wpList_alloc_v rfl 58 rfl (headC zeroH) (by kernel_rfl) ?_); intro w1 HZ hL hz1; refine Hid.out ?_)
  refine Lib.hid ?_
  replace HZ := Lib.hid HZ
  replace hb := hb.below' hL hL.size
  go_wp2_with fail
  refine (u32_yes A n c 0 0 xs w1 hn hb rfl (by omega)).mono ?_
  rintro e w2 ⟨rfl, k, rfl⟩
  replace HZ : Hid (BlkH (w1.drewN k) w.heap.size zeroH) := HZ
  replace hL := below_drewN hL k
  clear hb hz1
  generalize w1.drewN k = w3 at *
  generalize num4 xs 0 = x at *
  go_wp2_with ((refine wpList_store_head rfl (.tmp 2) (.tmp 20) rfl w.heap.size rfl zeroH rfl zeroH HZ.out rfl rfl rfl rfl ?_); intro w4 HG hb4 hz4)
  exact ret_head Try.results43 rfl rfl HG rfl rfl ⟨rfl, Below.trans hL hb4⟩ rfl

/-- 16 bytes of a slice -/
theorem Bs.range16 {w : World} {n b o : Nat} {xs : List Int} (h : ∀ i, i < n → w.cell? ⟨b, o + i, none⟩ = some (.int .u8 (xs.getD i 0))) (hl : xs.length = n) (k : Nat) (hk : k + 16 ≤ n) : w.rangeAt b (o + k) (cellsB ((xs.drop k).take 16)) := by
  intro j v hv
  have hj : j < 16 := by
    have := (List.getElem?_eq_some_iff.1 hv).1
    rw [cellsB_length] at this
    simp at this
    omega
  rw [Nat.add_assoc, h (k + j) (by omega)]
  rw [cellsB_get (by simp; omega)] at hv
  rw [← hv]
  congr 2
  simp [List.getD, hj]
theorem exec_load_mid {f : Operand → Value} {dd : Option Tmp} {x : Operand} {ty : TypeId} {pos : String} {gd : Option (Nat × Bool)} {w : World} {b o : Nat} {s : List Int} (hx : f x = .pointer (some ⟨b, o, none⟩)) (h : w.rangeAt b o (cellsB s)) (hs : s.length = 16) :
    (execOp f ⟨dd, .load 23 x, ty, pos, #[], gd⟩).run Try.prog w = .ok (.value (.agg (cellsB s).toArray)) w := by
  unfold execOp
  simp only [hx, Instr.loadAt, Instr.sureAddr, Sem.run_bind, Sem.run_pure, Result.andThen_ok, run_loadVar_mid w b o 23 (cellsB s) _ h Try.underlying23 rfl (by rw [addr_size]; simp [cellsB_length, hs])]

theorem list16 (s : List Int) (h : s.length = 16) : ∃ s0 s1 s2 s3 s4 s5 s6 s7 s8 s9 s10 s11 s12 s13 s14 s15, s = [s0, s1, s2, s3, s4, s5, s6, s7, s8, s9, s10, s11, s12, s13, s14, s15] := by
  match s, h with
  | [s0, s1, s2, s3, s4, s5, s6, s7, s8, s9, s10, s11, s12, s13, s14, s15], _ => exact ⟨s0, s1, s2, s3, s4, s5, s6, s7, s8, s9, s10, s11, s12, s13, s14, s15, rfl⟩
theorem run_build_lit (a b c d e s0 s1 s2 s3 s4 s5 s6 s7 s8 s9 s10 s11 s12 s13 s14 s15 d0 d1 d2 d3 d4 d5 d6 d7 d8 d9 d10 d11 d12 d13 d14 d15 : Int) (w : World) :
    (Instr.build 58 #[(0, .int .i64 a), (1, .int .i64 b), (2, .int .i64 c), (3, .int .i64 d), (4, .int .i64 e), (5, .agg (cellsB [s0, s1, s2, s3, s4, s5, s6, s7, s8, s9, s10, s11, s12, s13, s14, s15]).toArray), (6, .agg (cellsB [d0, d1, d2, d3, d4, d5, d6, d7, d8, d9, d10, d11, d12, d13, d14, d15]).toArray)]).run Try.prog w = .ok (.agg (headC ⟨a, b, c, d, e, [s0, s1, s2, s3, s4, s5, s6, s7, s8, s9, s10, s11, s12, s13, s14, s15], [d0, d1, d2, d3, d4, d5, d6, d7, d8, d9, d10, d11, d12, d13, d14, d15]⟩).toArray) w := by kernel_rfl
theorem run_build_head (h : Hd) (hs : h.s.length = 16) (hd : h.d.length = 16) (w : World) :
    (Instr.build 58 #[(0, .int .i64 h.cl), (1, .int .i64 h.lb), (2, .int .i64 h.ln), (3, .int .i64 h.nx), (4, .int .i64 h.hp), (5, .agg (cellsB h.s).toArray), (6, .agg (cellsB h.d).toArray)]).run Try.prog w = .ok (.agg (headC h).toArray) w := by
  obtain ⟨a, b, c, d, e, s, t⟩ := h
  obtain ⟨s0, s1, s2, s3, s4, s5, s6, s7, s8, s9, s10, s11, s12, s13, s14, s15, rfl⟩ := list16 s hs
  obtain ⟨d0, d1, d2, d3, d4, d5, d6, d7, d8, d9, d10, d11, d12, d13, d14, d15, rfl⟩ := list16 t hd
  exact run_build_lit _ _ _ _ _ _ _ _ _ _ _ _ _ _ _ _ _ _ _ _ _ _ _ _ _ _ _ _ _ _ _ _ _ _ _ _ _ w

theorem exec_build_head {f : Operand → Value} {dd : Option Tmp} {x0 x1 x2 x3 x4 x5 x6 : Operand} {ty : TypeId} {pos : String} {gd : Option (Nat × Bool)} {w : World} (h : Hd) (hs : h.s.length = 16) (hd : h.d.length = 16)
    (e0 : f x0 = .int .i64 h.cl) (e1 : f x1 = .int .i64 h.lb) (e2 : f x2 = .int .i64 h.ln) (e3 : f x3 = .int .i64 h.nx) (e4 : f x4 = .int .i64 h.hp) (e5 : f x5 = .agg (cellsB h.s).toArray) (e6 : f x6 = .agg (cellsB h.d).toArray) :
    (execOp f ⟨dd, .build 58 #[(0, x0), (1, x1), (2, x2), (3, x3), (4, x4), (5, x5), (6, x6)], ty, pos, #[], gd⟩).run Try.prog w = .ok (.value (.agg (headC h).toArray)) w := by
  unfold execOp
  simp only [List.map_toArray, List.map_cons, List.map_nil, e0, e1, e2, e3, e4, e5, e6, Sem.run_bind, run_build_head h hs hd, Result.andThen_ok, Sem.run_pure]

set_option maxHeartbeats 1600000 in
set_option maxRecDepth 100000 in
theorem get_yes (A : Option Addr) (n c : Nat) (xs : List Int) (w : World) (hn : n ≤ 140737488355328) (hc : n ≤ c) (hc2 : c ≤ 9223372036854775807) (h1 : 40 ≤ n) (h2 : xs.getD 0 0 / 16 = 6) (hb : Bs w w.heap.size A n xs) :
    Calls Try.prog 43 #[.slice A n c] w fun e w' => GivesH w (getL xs) 0 e w' := by
  obtain ⟨f1, f2, f3, f4, f5⟩ := first_at xs hb.all
  rw [← f1] at h2
  have HF2 := Lib.hid f2
  have HF3 := Lib.hid f3
  have HOk := Lib.hid (getL_ok hb.all (by rw [hb.len]; exact h1))
  clear f1 f2 f3
  have HB0 := Lib.hid hb
  go_enter Try.func43, Try.ntmps43
  go_wp2_with ((with_reducible refine wpList_alloc_v rfl 58 rfl (headC zeroH) (by kernel_rfl) ?_); intro w1 HZ hL hz1; refine Hid.out ?_)
  refine Lib.hid ?_
  replace HZ := Lib.hid HZ
  replace hb := hb.below' hL hL.size
  go_wp2_with fail
  refine (u32_yes A n c 0 0 xs w1 hn hb rfl (by omega)).mono ?_
  rintro e w2 ⟨rfl, k, rfl⟩
  replace HZ : Hid (BlkH (w1.drewN k) w.heap.size zeroH) := HZ
  replace hL := below_drewN hL k
  replace hb : Bs (w1.drewN k) (w1.drewN k).heap.size A n xs := hb.drewN k
  clear hz1
  generalize w1.drewN k = w3 at *
  have a1 := and255u (num4 xs 0 / 1048576) (by omega) (by omega)
  have a2 := and1048575u (num4 xs 0) f4 f5
  rw [HF2.out] at a1
  rw [HF3.out] at a2
  have HB := Lib.hid hb
  clear hb
  have rq : 0 ≤ num4 xs 0 / 1048576 ∧ num4 xs 0 / 1048576 < 4294967296 := by omega
  go_wp2_with fail
  refine (u16_yes A n c 4 4 xs w3 hn HB.out rfl (by omega)).mono ?_
  rintro e w4 ⟨rfl, k, rfl⟩
  replace HZ : Hid (BlkH (w3.drewN k) w.heap.size zeroH) := HZ
  replace hL := below_drewN hL k
  replace HB : Hid (Bs (w3.drewN k) (w3.drewN k).heap.size A n xs) := Lib.hid (HB.out.drewN k)
  generalize w3.drewN k = w5 at *
  have HN2 := Lib.hid (show num2 xs 4 = xs.getD 4 0 * 256 + xs.getD 5 0 from rfl)
  generalize num2 xs 4 = ln at *
  go_wp2_with fail
  refine wp_region_planS (fun y => Below w.heap.size w y) (.rd 0 (.rd 1 (.rd 2 (.rd 3 (.rd 4 (.rd 5 (.rd 6 (.rd 7 (.rd 8 (.rd 9 (.rd 10 (.rd 11 (.rd 12 (.rd 13 (.rd 14 (.rd 15 (.rd 16 (.rd 17 (.rd 18 (.rd 19 (.rd 20 (.rd 21 (.rd 22 (.rd 23 (.rd 24 (.act 25 (.rd 26 (.done))))))))))))))))))))))))))))
    (by kernel_rfl) (by kernel_rfl) (fun _ _ d _ _ h => by cases d <;> exact h) (by kernel_rfl) (Below.drew hL) ?_
  replace HZ : Hid (BlkH w5.drew w.heap.size zeroH) := HZ
  replace hL := Below.drew hL
  clear HB
  generalize w5.drew = w6 at *
  have HB := HB0
  clear HB0
  have hall := HB.out.all
  have r0 := hall.getD 0
  have r1 := hall.getD 1
  have r2 := hall.getD 2
  have r3 := hall.getD 3
  have r6 := hall.getD 6
  have r7 := hall.getD 7
  obtain ⟨b, o, rfl, hbl, hcell⟩ := HB.out.mem (by omega)
  have HM1 := Lib.hid (Bs.range16 hcell HB.out.len 8 (by omega))
  have HM2 := Lib.hid (Bs.range16 hcell HB.out.len 24 (by omega))
  have c6 := hcell 6 (by omega)
  have c7 := hcell 7 (by omega)
  clear hcell
  have l1 : Hid (((xs.drop 8).take 16).length = 16) := Lib.hid HOk.out.s
  have l2 : Hid (((xs.drop 24).take 16).length = 16) := Lib.hid HOk.out.d
  have HG := Lib.hid (show getL xs = ⟨xs.getD 0 0 % 16 * 16 + xs.getD 1 0 / 16, xs.getD 1 0 % 16 * 65536 + xs.getD 2 0 * 256 + xs.getD 3 0, xs.getD 4 0 * 256 + xs.getD 5 0, xs.getD 6 0, xs.getD 7 0, (xs.drop 8).take 16, (xs.drop 24).take 16⟩ from rfl)
  rw [← HN2.out] at HG
  generalize (xs.drop 8).take 16 = s1 at *
  generalize (xs.drop 24).take 16 = s2 at *
  have hm1 : ∀ y, Below w.heap.size w y → y.rangeAt b (o + 8) (cellsB s1) := fun y hy j v hv => (hy.cell (p := ⟨b, o + 8 + j, none⟩) hbl).trans (HM1.out j v hv)
  have hm2 : ∀ y, Below w.heap.size w y → y.rangeAt b (o + 24) (cellsB s2) := fun y hy j v hv => (hy.cell (p := ⟨b, o + 24 + j, none⟩) hbl).trans (HM2.out j v hv)
  replace hm1 := Lib.hid hm1
  replace hm2 := Lib.hid hm2
  clear HM1 HM2 HF2 HF3 HN2 HB hall
  generalize xs.getD 0 0 = x0 at *
  generalize xs.getD 1 0 = x1 at *
  generalize xs.getD 2 0 = x2 at *
  generalize xs.getD 3 0 = x3 at *
  generalize xs.getD 6 0 = x6 at *
  generalize xs.getD 7 0 = x7 at *
  have q1 : 0 ≤ x0 % 16 * 16 + x1 / 16 ∧ x0 % 16 * 16 + x1 / 16 < 256 := by omega
  have q2 : 0 ≤ x1 % 16 * 65536 + x2 * 256 + x3 ∧ x1 % 16 * 65536 + x2 * 256 + x3 < 1048576 := by omega
  have hw1 : IntKind.i64.wrap (x0 % 16 * 16 + x1 / 16) = x0 % 16 * 16 + x1 / 16 := wraps_i64 _ q1.1 (by omega)
  have hw2 : IntKind.i64.wrap (x1 % 16 * 65536 + x2 * 256 + x3) = x1 % 16 * 65536 + x2 * 256 + x3 := wraps_i64 _ q2.1 (by omega)
  have n6 : (6 : Int) < n := by omega
  have n7 : (7 : Int) < n := by omega
  have n24 : (24 : Int) ≤ c := by omega
  have n40 : (40 : Int) ≤ c := by omega
  have hw6 : IntKind.i64.wrap x6 = x6 := wraps_i64 _ r6.1 (by omega)
  have hw7 : IntKind.i64.wrap x7 = x7 := wraps_i64 _ r7.1 (by omega)
  have nc8 : ¬ c = 8 := by omega
  have nc24 : ¬ c = 24 := by omega
  iterate 24 (refine walkS_read (v := _) rfl (by rfl) (by intro y hy; have e6 := (hy.cell (p := ⟨b, o + 6, none⟩) hbl).trans c6; have e7 := (hy.cell (p := ⟨b, o + 7, none⟩) hbl).trans c7; first | exact exec_load_mid rfl (hm1.out y hy) l1.out | exact exec_load_mid rfl (hm2.out y hy) l2.out | (go_simp; try rfl)) ?_; simp only [Act.put, List.setIfInBounds_toArray, List.set_cons_zero, List.set_cons_succ])
  refine walkS_read (v := _) rfl (by rfl) (by intro y hy; exact exec_build_head ⟨x0 % 16 * 16 + x1 / 16, x1 % 16 * 65536 + x2 * 256 + x3, ln, x6, x7, s1, s2⟩ l1.out l2.out rfl rfl rfl rfl rfl rfl rfl) ?_
  simp only [Act.put, List.setIfInBounds_toArray, List.set_cons_zero, List.set_cons_succ]
  rw [← HG.out]
  have HS := Lib.hid HOk.out.s
  have HD := Lib.hid HOk.out.d
  refine walkS_act rfl (by rfl) (fun K hK => ?_)
  refine wp_store_row 58 (.tmp 2) (.tmp 50) rfl w.heap.size (headC (getL xs)).toArray rfl rfl 58 _ HZ.out (by rw [head_size]; simp [headC_length HS.out HD.out]) (by simp [headC_length HS.out HD.out, headC_length zeroH_ok.s zeroH_ok.d]) (by rw [Array.all_eq_true_iff_forall_mem]; intro v hv; exact headC_one _ v (by simpa using hv)) ?_
  refine hK _ _ (hL.trans (low_setRow _ _ _ (Nat.le_refl _))) ?_
  clear hK K
  have HG2 : BlkH (w6.setRow w.heap.size (headC (getL xs)).toArray) w.heap.size (getL xs) := BlkV.setRow HZ.out _
  replace hL := hL.trans (low_setRow w6 w.heap.size (headC (getL xs)).toArray (Nat.le_refl _))
  clear HZ
  generalize w6.setRow w.heap.size (headC (getL xs)).toArray = w7 at *
  simp only [Act.put]
  refine walkS_read (v := _) rfl (by rfl) (by intro y hy; go_simp; try rfl) ?_
  simp only [Act.put, List.setIfInBounds_toArray, List.set_cons_zero, List.set_cons_succ]
  unfold walkS
  go_wp2
  exact ret_head Try.results43 rfl rfl HG2 HS.out HD.out ⟨rfl, hL⟩ rfl
theorem get_any (A : Option Addr) (n c : Nat) (xs : List Int) (w : World) (hn : n ≤ 140737488355328) (hc : n ≤ c) (hc2 : c ≤ 9223372036854775807) (hb : Bs w w.heap.size A n xs) :
    Calls Try.prog 43 #[.slice A n c] w fun e w' => GivesH w (getH xs) (getE xs) e w' := by
  have hl := hb.len
  rcases getE_cases xs with ⟨h1, e1, e2⟩ | ⟨h1, h2, e1, e2⟩ | ⟨h1, h2, e1, e2⟩
  · rw [e1, e2]; exact get_short A n c xs w hn (by omega) hb
  · rw [e1, e2]; exact get_yes A n c xs w hn hc hc2 (by omega) h2 hb
  · rw [e1, e2]; exact get_form A n c xs w hn (by omega) h2 hb
end Go.Proofs.Ytheagbgojdlfaaa
