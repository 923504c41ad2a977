/- What srh.lay, laid.size, laid.bytes, Put and Size answer: a routing header as it is laid, and its bytes. Condition: at most 2^47 segments and parts. -/
import Derived.Test.YtnfiijbnfmcpjaaSrC
import Derived.Test.YtnfiijbnfmcpjaaSrD
import Derived.Test.YtnfiijbnfmcpjaaTlD
import Derived.Test.YtnfiijbnfmcpjaaSlc
namespace Go.Proofs.Ytnfiijbnfmcpjaa
open Go.RowKit
set_option linter.unusedVariables false

/-- a header as it is laid: with the bytes of its parts -/
def laidC (s : Sr) (pA : Option Addr) (pn pc : Nat) : List Value := [.int .i64 s.nx, .int .i64 s.le, .int .i64 s.fl, .int .i64 s.tg, .slice s.gA s.gm s.gc, .slice s.tA s.tm s.tc, .slice pA pn pc]
def laidV (s : Sr) (pA : Option Addr) (pn pc : Nat) : Value := .agg (laidC s pA pn pc).toArray
theorem laidC_one (s : Sr) (pA : Option Addr) (pn pc : Nat) : (laidC s pA pn pc).toArray.all (·.oneCell') = true := by simp [laidC, Value.oneCell']
theorem laid_size : (Try.prog.info? 44).map (·.size) = some 7 := by kernel_rfl
theorem laid_zero : (Try.prog.info? 44).map (·.zero) = some (some (.agg (laidC zeroSr none 0 0).toArray)) := by kernel_rfl
abbrev BlkLd (w : World) (g : Nat) (s : Sr) (pA : Option Addr) (pn pc : Nat) : Prop := BlkV w 44 g (laidC s pA pn pc)
theorem BlkLd.cells {w : World} {g : Nat} {s : Sr} {pA : Option Addr} {pn pc : Nat} (h : BlkLd w g s pA pn pc) :
    w.cell? ⟨g, 0, none⟩ = some (.int .i64 s.nx) ∧ w.cell? ⟨g, 1, none⟩ = some (.int .i64 s.le) ∧ w.cell? ⟨g, 2, none⟩ = some (.int .i64 s.fl) ∧ w.cell? ⟨g, 3, none⟩ = some (.int .i64 s.tg) ∧
    w.cell? ⟨g, 4, none⟩ = some (.slice s.gA s.gm s.gc) ∧ w.cell? ⟨g, 5, none⟩ = some (.slice s.tA s.tm s.tc) ∧ w.cell? ⟨g, 6, none⟩ = some (.slice pA pn pc) :=
  ⟨h.cell 0, h.cell 1, h.cell 2, h.cell 3, h.cell 4, h.cell 5, h.cell 6⟩
theorem run_build_laid (s : Sr) (pA : Option Addr) (pn pc : Nat) (w : World) : (Instr.build 44 #[(0, .agg (srC s).toArray), (1, .slice pA pn pc)]).run Try.prog w = .ok (.agg (laidC s pA pn pc).toArray) w := by kernel_rfl
section
variable {ops : Array Oper} {rest : List Oper} {o : Oper} {a : Act} {w : World} {Q : Exit → Act → World → Prop}
theorem wpList_build_laid (hgd : o.guard = none) (x y : Operand) (ho : o.op = .build 44 #[(0, x), (1, y)]) (s : Sr) (pA : Option Addr) (pn pc : Nat) (hx : a.eval x = .agg (srC s).toArray) (hy : a.eval y = .slice pA pn pc)
    (hk : wpList Try.prog ops Q rest (a.put o.dst (.agg (laidC s pA pn pc).toArray)) w) : wpList Try.prog ops Q (o :: rest) a w :=
  wpList_plain hgd fun K hK => by
    unfold Oper.wp execOp
    simp only [ho, List.map_toArray, List.map_cons, List.map_nil, hx, hy, Sem.run_bind, run_build_laid, Result.andThen_ok, Sem.run_pure]
    exact hK _ _ hk
theorem wpList_store_laid (hgd : o.guard = none) (x y : Operand) (ho : o.op = .store 44 x y) (g : Nat) (hx : a.eval x = .pointer (some ⟨g, 0, none⟩)) (s : Sr) (pA : Option Addr) (pn pc : Nat) (hy : a.eval y = .agg (laidC s pA pn pc).toArray) (old : Sr) (oA : Option Addr) (on oc : Nat) (hb : BlkLd w g old oA on oc)
    (hk : ∀ w', BlkLd w' g s pA pn pc → Below g w w' → (∀ p : Addr, p.block ≠ g → w'.cell? p = w.cell? p) → w'.heap.size = w.heap.size → wpList Try.prog ops Q rest (a.put o.dst undef) w') : wpList Try.prog ops Q (o :: rest) a w :=
  wpList_store_row hgd 44 x y ho g _ hx hy _ _ hb (by rw [laid_size]; rfl) rfl (laidC_one s pA pn pc) (hk _ (BlkV.setRow hb _) (low_setRow _ _ _ (Nat.le_refl _)) (fun p hp => World.cell?_of_block (by simp [World.setRow, Array.getElem?_modify, Ne.symm hp])) (by simp))
theorem wpList_load_laid (hgd : o.guard = none) (x : Operand) (ho : o.op = .load 44 x) (g : Nat) (hx : a.eval x = .pointer (some ⟨g, 0, none⟩)) (s : Sr) (pA : Option Addr) (pn pc : Nat) (hb : BlkLd w g s pA pn pc)
    (hk : wpList Try.prog ops Q rest (a.put o.dst (.agg (laidC s pA pn pc).toArray)) w) : wpList Try.prog ops Q (o :: rest) a w :=
  wpList_load_row hgd 44 x ho g hx _ (laidC s pA pn pc).toArray (0, 0) _ hb Try.underlying44 rfl (by rw [laid_size]; rfl) hk
end
theorem exec_load_laid {f : Operand → Value} {dd : Option Tmp} {x : Operand} {ty : TypeId} {pos : String} {gd : Option (Nat × Bool)} {w : World} {g : Nat} {s : Sr} {pA : Option Addr} {pn pc : Nat} (hx : f x = .pointer (some ⟨g, 0, none⟩)) (hb : BlkLd w g s pA pn pc) :
    (execOp f ⟨dd, .load 44 x, ty, pos, #[], gd⟩).run Try.prog w = .ok (.value (.agg (laidC s pA pn pc).toArray)) w := by
  unfold execOp
  simp only [hx, Instr.loadAt, Instr.sureAddr, Sem.run_bind, Sem.run_pure, Result.andThen_ok, run_loadVar_row w g 44 44 (laidC s pA pn pc).toArray _ _ hb Try.underlying44 rfl (by rw [laid_size]; rfl)]
theorem ret_laid {fn : Func} {p q : Tmp} {R : Ending → World → Prop} {tmps : Array Value} {df : List Deferred} {w : World} {g : Nat} {s : Sr} {pA : Option Addr} {pn pc : Nat} {er : Int} (hfn : fn.results = #[.cell p 44, .tmp q]) (hp : tmps.getD p undef = .pointer (some ⟨g, 0, none⟩)) (hq : tmps.getD q undef = .int .i64 er)
    (hb : BlkLd w g s pA pn pc) (hR : R (.returned (.tuple #[laidV s pA pn pc, .int .i64 er])) w) (hd : df = []) : bodyPost Try.prog fn R .ret ⟨tmps, df⟩ w :=
  bodyPost_ret (results_cell_tmp hfn tmps w g _ _ _ _ _ hp hq hb Try.underlying44 rfl (by rw [laid_size]; rfl)) hd hR

theorem Bs.upperR {w w' : World} {B n lo : Nat} {A : Option Addr} {xs : List Int} (h : Bs w B A n xs) (hf : AFrom lo A n) (hk : ∀ p : Addr, lo ≤ p.block → p.block < B → w'.cell? p = w.cell? p) : Bs w' B A n xs :=
  ⟨h.len, h.all, fun hn => by
    obtain ⟨b, o, e, hb, hc⟩ := h.mem hn
    obtain ⟨b', o', e', hl⟩ := hf hn
    rw [e] at e'
    injection e' with e'
    injection e' with e1 e2 _
    subst e1 e2
    exact ⟨b, o, e, hb, fun i hi => (hk _ hl hb).trans (hc i hi)⟩⟩
theorem OwnB.fromR {t : TypeId} {w : World} {base n c : Nat} {A : Option Addr} {ys : List Int} (h : OwnB t w base A n c ys) : AFrom base A n := fun hn => by
  obtain ⟨g, cap, hv, hb, _⟩ := World.ownsRow.form h.1 hn
  injection hv with hA
  exact ⟨g, 0, hA, hb⟩

/-- a header as it is laid, and why not -/
def GivesLd (w : World) (s : Sr) (e : Ending) (w' : World) : Prop :=
  ∃ t pA pn pc, e = .returned (.tuple #[laidV t pA pn pc, .int .i64 (canR s.v)]) ∧ (canR s.v = 0 → t = s ∧ Bs w' w'.heap.size pA pn (putT s.v.tl)) ∧ Below w.heap.size w w'
theorem GivesLd.no {w w' : World} {s : Sr} {x : Int} (hx : canR s.v = x) (h : x ≠ 0) (hB : Below w.heap.size w w') : GivesLd w s (.returned (.tuple #[laidV zeroSr none 0 0, .int .i64 x])) w' :=
  ⟨zeroSr, none, 0, 0, by rw [hx], fun h0 => absurd (hx.symm.trans h0) h, hB⟩
theorem GivesLd.yes {w w' : World} {s : Sr} {pA : Option Addr} {pn pc : Nat} (hx : canR s.v = 0) (hb : Bs w' w'.heap.size pA pn (putT s.v.tl)) (hB : Below w.heap.size w w') : GivesLd w s (.returned (.tuple #[laidV s pA pn pc, .int .i64 0])) w' :=
  ⟨s, pA, pn, pc, by rw [hx], fun _ => ⟨rfl, hb⟩, hB⟩

set_option maxRecDepth 100000 in
set_option maxHeartbeats 1600000 in
theorem lay_any (s : Sr) (w : World) (hs : s.ok w w.heap.size) : Calls Try.prog 18 #[srV s] w (GivesLd w s) := by
  unfold srV
  have HT := Lib.hid hs
  clear hs
  go_enter Try.func18, Try.ntmps18
  go_wp2_with (first | ((with_reducible refine wpList_box_sr rfl (.tmp 0) rfl s rfl ?_); intro w1 HB hL hz1) | ((with_reducible refine wpList_alloc_v rfl 44 rfl (laidC zeroSr none 0 0) laid_zero ?_); intro w2 HZ hL2 hz2; refine Hid.out ?_))
  refine Lib.hid ?_
  rw [hz1] at HZ
  replace HZ : Hid (BlkLd w2 (w.heap.size + 1) zeroSr none 0 0) := Lib.hid HZ
  replace HB := Lib.hid (HB.below hL2 HB.lt)
  replace hL : Low w w2 := hL.trans hL2
  clear hz1 hz2 hL2
  go_wp2_with (with_reducible refine wpList_load_sr rfl (.tmp 1) rfl w.heap.size rfl s HB.out ?_)
  refine (srcan_any s w2 (HT.out.low hL)).mono ?_
  rintro e w3 ⟨rfl, hB3⟩
  replace HB := Lib.hid (HB.out.below hB3 HB.out.lt)
  replace HZ := Lib.hid (HZ.out.below hB3 HZ.out.lt)
  replace hL := hL.trans hB3
  clear hB3
  obtain ⟨x, hx⟩ : ∃ x, x = canR s.v := ⟨_, rfl⟩
  rw [← hx]
  have HX := Lib.hid hx.symm
  clear hx
  by_cases h0 : x = 0
  · subst h0
    have HCT := Lib.hid (canR_zero HX.out).2.2.2
    replace HCT : Hid (canT (s.tl.map Od.v) = 0) := HCT
    obtain ⟨c0, c1, c2, c3, c4, c5⟩ := BlkR.cells HB.out
    clear c0 c1 c2 c3 c4
    go_wp2_with fail
    refine (tlput_own s.tA s.tm s.tc s.tl w3 (by have := HT.out.tm; omega) (HT.out.low hL).tl).mono ?_
    rintro e w4 ⟨A4, r4, rfl, hb4, hB4⟩
    rw [HCT.out]
    have HP := Lib.hid (show putT (s.tl.map Od.v) = putT s.v.tl from rfl)
    generalize putT (s.tl.map Od.v) = ys at *
    obtain ⟨q, hq⟩ : ∃ q, q = ys.length := ⟨_, rfl⟩
    rw [← hq] at hb4 ⊢
    replace HB := Lib.hid (HB.out.below hB4 HB.out.lt)
    have HFR := Lib.hid hb4.fromR
    have hlz := HZ.out.lt
    replace HZ := Lib.hid (HZ.out.below hB4 HZ.out.lt)
    replace hL := hL.trans hB4
    have HB4 := Lib.hid (hb4.bs (Nat.le_refl _))
    clear hB4 c5 hq hb4
    go_wp2_with (first
      | (with_reducible refine wpList_load_sr rfl (.tmp 1) rfl w.heap.size rfl s HB.out ?_)
      | (with_reducible refine wpList_build_laid rfl (.tmp 19) (.tmp 20) rfl s A4 q r4 rfl rfl ?_)
      | (refine wpList_store_laid rfl (.tmp 2) (.tmp 21) rfl (w.heap.size + 1) rfl s A4 q r4 rfl zeroSr none 0 0 HZ.out ?_; intro w5 HG hb5 ho5 hz5; refine Hid.out ?_))
    refine Lib.hid ?_
    replace HG := Lib.hid HG
    have HB5 : Hid (Bs w5 w5.heap.size A4 q ys) := Lib.hid ((HB4.out.upperR HFR.out (fun p hp _ => ho5 p (by omega))).more (by omega))
    rw [HP.out] at HB5
    go_wp2_with fail
    exact ret_laid Try.results18 rfl rfl HG.out (GivesLd.yes HX.out HB5.out (Below.trans hL (hb5.mono (by omega)))) rfl
  · have hxb : (x != 0) = true := by simpa using h0
    go_wp2_with (refine wpList_store_laid rfl (.tmp 2) (.tmp 11) rfl (w.heap.size + 1) rfl zeroSr none 0 0 rfl zeroSr none 0 0 HZ.out ?_; intro w5 HG hb5 ho5 hz5; refine Hid.out ?_)
    refine Lib.hid ?_
    replace HG := Lib.hid HG
    go_wp2_with fail
    exact ret_laid Try.results18 rfl rfl HG.out (GivesLd.no HX.out h0 (Below.trans hL (hb5.mono (by omega)))) rfl

set_option maxRecDepth 100000 in
set_option maxHeartbeats 800000 in
theorem lsize_any (s : Sr) (pA : Option Addr) (pn pc : Nat) (w : World) (h1 : s.gm ≤ 140737488351232) (h2 : pn ≤ 140737488351232) (z : Nat) (hz : z = 8 + 16 * s.gm + pn) :
    Calls Try.prog 24 #[laidV s pA pn pc] w fun e w' => e = .returned (.int .i64 z) ∧ Below w.heap.size w w' := by
  unfold laidV
  have HZ := Lib.hid (show 8 + 16 * (s.gm : Int) + pn = (z : Int) by omega)
  clear hz
  go_enter Try.func24, Try.ntmps24
  go_wp2_with ((with_reducible refine wpList_box_v rfl 44 (.tmp 0) rfl (laidC s pA pn pc) rfl ?_); intro w1 HB hL hz1; refine Hid.out ?_)
  refine Lib.hid ?_
  obtain ⟨c0, c1, c2, c3, c4, c5, c6⟩ := BlkLd.cells HB
  clear HB c0 c1 c2 c3 c5
  go_wp2_with fail
  go_ret
  exact ⟨by rw [← HZ.out]; rfl, hL⟩
end Go.Proofs.Ytnfiijbnfmcpjaa
