/- Regions that draw, where a way may give up; how a call that defers is left. No program but the closures' contracts. No condition. -/
import Derived.Test.YtpaomhgdpncdoaaDtB
import Derived.Test.YtpaomhgdpncdoaaJReg
import Derived.Test.YtpaomhgdpncdoaaJSrB
namespace Go.Proofs.Ytpaomhgdpncdoaa
open Go.RowKit
set_option linter.unusedVariables false

section
variable {P : Program} {ops : Array Oper} {Q : Exit → Act → World → Prop} {S : World → Prop}
theorem held_of_planD (D : Option Tmp → Bool) (hs : Region.noSelect ops = true) (hD : ops.all (fun o => D o.dst) = true) (hQ : ∀ c a d v w, D d = true → Q (.panic c) (Act.put a d v) w → Q (.panic c) a w) :
    ∀ (r : Plan) (n : Nat) (listed : Array Bool) (a : Act) (w : World), S w → planB ops r n listed = true → walkS P ops Q S r a w → wpAnyH P .any ops Q S n listed a w
  | .done, n, listed, a, w, _, ho, h => wpAnyH_done (by simpa [planB] using ho) h n
  | .rd i r, n + 1, listed, a, w, hS, ho, h => by
    simp only [planB, Bool.and_eq_true] at ho
    obtain ⟨o, v, hi, hy, hw⟩ := h
    have hd : D o.dst = true := by
      have := Array.all_eq_true_iff_forall_mem.1 hD o (Array.mem_of_getElem? hi)
      simpa using this
    exact wpAnyH_take hi hs ho.1.2 ho.1.1 (fun c a w => hQ c a _ _ w hd) hy hS (held_of_planD D hs hD hQ r n _ _ w hS ho.2 hw)
  | .act i r, n + 1, listed, a, w, hS, ho, h => by
    simp only [planB, Bool.and_eq_true, beq_iff_eq] at ho
    refine wpAnyH_all ho.1 (by simp) fun j hj => ?_
    obtain rfl : j = i := by simpa using hj
    exact wpOp_mono (fun a' w' h' => ⟨h'.1, held_of_planD D hs hD hQ r n _ a' w' h'.1 ho.2 h'.2⟩) h
  | .fork i p j q, n + 1, listed, a, w, hS, ho, h => by
    simp only [planB, Bool.and_eq_true, beq_iff_eq] at ho
    refine wpAnyH_all ho.1.1 (by simp) fun k hk => ?_
    rcases List.mem_cons.1 hk with rfl | hk
    · exact wpOp_mono (fun a' w' h' => ⟨h'.1, held_of_planD D hs hD hQ p n _ a' w' h'.1 ho.1.2 h'.2⟩) h.1
    · obtain rfl : k = j := by simpa using hk
      exact wpOp_mono (fun a' w' h' => ⟨h'.1, held_of_planD D hs hD hQ q n _ a' w' h'.1 ho.2 h'.2⟩) h.2
  | .rd _ _, 0, _, _, _, _, ho, _ => by simp [planB] at ho
  | .act _ _, 0, _, _, _, _, ho, _ => by simp [planB] at ho
  | .fork _ _ _ _, 0, _, _, _, _, ho, _ => by simp [planB] at ho

/-- what holds where a region is left, but a way that gives up is told by R alone -/
def orThrow (R : List PanicEntry → Act → World → Prop) (Q : Exit → Act → World → Prop) : Exit → Act → World → Prop
  | .panic c, a, w => R c a w
  | e, a, w => Q e a w
/-- a region that draws, of which a call may give up: R is what holds then, whatever was read -/
theorem wp_region_planD {id : Nat} {a : Act} {w : World} (S : World → Prop) (R : List PanicEntry → Act → World → Prop) (r : Plan) (D : Option Tmp → Bool) (hm : P.follows .mixedOrders = true) (hs : Region.noSelect ops = true) (hD : ops.all (fun o => D o.dst) = true)
    (hR : ∀ c a d v w, D d = true → R c (Act.put a d v) w → R c a w) (hRQ : ∀ c a w, R c a w → Q (.panic c) a w) (ho : planB ops r ops.size (Array.replicate ops.size false) = true) (hS : S w.drew)
    (h : walkS P ops (orThrow R Q) S r a w.drew) : (Code.region id ops true).wp P Q a w :=
  Code.wp_mono (Q := orThrow R Q) (fun e a' w' hq => by cases e with | panic c => exact hRQ c a' w' hq | _ => exact hq) (wp_region_held hm (held_of_planD (Q := orThrow R Q) D hs hD (fun c a d v w hd hq => hR c a d v w hd hq) r ops.size _ a _ hS ho h))
/-- none gives up -/
theorem wp_region_planN {id : Nat} {a : Act} {w : World} (S : World → Prop) (r : Plan) (hm : P.follows .mixedOrders = true) (hs : Region.noSelect ops = true) (ho : planB ops r ops.size (Array.replicate ops.size false) = true) (hS : S w.drew)
    (h : walkS P ops (orThrow (fun _ _ _ => False) Q) S r a w.drew) : (Code.region id ops true).wp P Q a w :=
  wp_region_planD S (fun _ _ _ => False) r (fun _ => true) hm hs (by simp) (fun _ _ _ _ _ _ h => h) (fun _ _ _ h => h.elim) ho hS h
end

section
variable {P : Program} {F : FuncId} {fn : Func} {tmps : Array Value} {R : Ending → World → Prop} {p : Addr} {w : World}
/-- a call that defers one closure is left by a return -/
theorem door_ret (hi : (invoke (.fn (.func F) #[.pointer (some p)]) #[]).run P w = .ok (.enter F #[.pointer (some p)]) w)
    (hc : CallsD P F #[.pointer (some p)] .returning w fun e u' w' => e = .returned (.tuple #[]) ∧ u' = .returning ∧ w' = w.setCell p (.int .i64 0))
    (v : Value) (hr : (results fn tmps).run P (w.setCell p (.int .i64 0)) = .ok v (w.setCell p (.int .i64 0))) (hR : R (.returned v) (w.setCell p (.int .i64 0))) :
    bodyPostD P fn R .ret ⟨tmps, [{ target := .fn (.func F) #[.pointer (some p)], args := #[] }]⟩ w := by
  show Leaves P fn tmps R _ .returning w
  refine leaves_cons (by simp) hi (hc.mono ?_)
  rintro e u' w' ⟨rfl, rfl, rfl⟩
  exact ⟨v, hr, hR⟩
/-- it is left by a panic, which the closure tells as an error -/
theorem door_panic (er : Int) (hi : (invoke (.fn (.func F) #[.pointer (some p)]) #[]).run P w = .ok (.enter F #[.pointer (some p)]) w)
    (hc : CallsD P F #[.pointer (some p)] (.panicking ({ v := errV er, recovered := false } :: [])) w fun e u' w' => e = .returned (.tuple #[]) ∧ u' = .panicking ({ v := errV er, recovered := true } :: []) ∧ w' = w.setCell p (.int .i64 er))
    (v : Value) (hr : (results fn tmps).run P (w.setCell p (.int .i64 er)) = .ok v (w.setCell p (.int .i64 er))) (hR : R (.returned v) (w.setCell p (.int .i64 er))) :
    bodyPostD P fn R (.panic [{ v := errV er, recovered := false }]) ⟨tmps, [{ target := .fn (.func F) #[.pointer (some p)], args := #[] }]⟩ w := by
  show Leaves P fn tmps R _ (.panicking [{ v := errV er, recovered := false }]) w
  refine leaves_cons (by simp) hi (hc.mono ?_)
  rintro e u' w' ⟨rfl, rfl, rfl⟩
  exact ⟨v, hr, hR⟩
end
theorem run_loadErr (w : World) (g : Nat) (x : Int) (hc : w.cell? ⟨g, 0, none⟩ = some (.int .i64 x)) : (loadVar 27 ⟨g, 0, none⟩).run Try.prog w = .ok (.int .i64 x) w := by
  simp [loadVar, isAgg, run_underlying Try.underlying27, hc, go_sem]
theorem results_tmp_cell {fn : Func} {p q : Tmp} (h : fn.results = #[.tmp p, .cell q 27]) (tmps : Array Value) (w : World) (g : Nat) (v : Value) (x : Int)
    (hp : tmps.getD p undef = v) (hq : tmps.getD q undef = .pointer (some ⟨g, 0, none⟩)) (hc : w.cell? ⟨g, 0, none⟩ = some (.int .i64 x)) : (results fn tmps).run Try.prog w = .ok (.tuple #[v, .int .i64 x]) w := by
  have hp' : tmps[p]?.getD undef = v := by simpa using hp
  have hq' : tmps[q]?.getD undef = .pointer (some ⟨g, 0, none⟩) := by simpa using hq
  simp [results, h, hp', hq', asAddr, run_loadErr w g x hc]
theorem results_cell_tmp_cell {fn : Func} {p q r : Tmp} (h : fn.results = #[.cell p 26, .tmp q, .cell r 27]) (tmps : Array Value) (w : World) (g g2 : Nat) (s : Sr) (v : Value) (x : Int)
    (hp : tmps.getD p undef = .pointer (some ⟨g, 0, none⟩)) (hb : BlkR w g s) (hq : tmps.getD q undef = v) (hr : tmps.getD r undef = .pointer (some ⟨g2, 0, none⟩)) (hc : w.cell? ⟨g2, 0, none⟩ = some (.int .i64 x)) : (results fn tmps).run Try.prog w = .ok (.tuple #[srV s, v, .int .i64 x]) w := by
  have hp' : tmps[p]?.getD undef = .pointer (some ⟨g, 0, none⟩) := by simpa using hp
  have hq' : tmps[q]?.getD undef = v := by simpa using hq
  have hr' : tmps[r]?.getD undef = .pointer (some ⟨g2, 0, none⟩) := by simpa using hr
  simp [results, h, hp', hq', hr', asAddr, run_loadErr w g2 x hc, run_loadVar_row w g 26 26 (srC s).toArray _ _ hb Try.underlying26 rfl (by rw [sr_size]; rfl), srV]
/-- bytes are where no number is -/
theorem Bs.setNum {w : World} {B n : Nat} {A : Option Addr} {xs : List Int} (h : Bs w B A n xs) {p : Addr} {x : Int} (hp : w.cell? p = some (.int .i64 x)) (u : Value) : Bs (w.setCell p u) B A n xs :=
  ⟨h.len, h.all, fun hn => by
    obtain ⟨b, o, e, hb, hc⟩ := h.mem hn
    refine ⟨b, o, e, hb, fun i hi => ?_⟩
    rw [World.cell?_setCell_other, hc i hi]
    intro e2
    have h1 := hc i hi
    rw [← e2, hp] at h1
    injection h1 with h1
    injection h1 with h1 _
    cases h1⟩
/-- the error's cell -/
theorem blkE {w : World} {g : Nat} {x : Int} (h : BlkV w 27 g [.int .i64 x]) (y : Int) : BlkV (w.setCell ⟨g, 0, none⟩ (.int .i64 y)) 27 g [.int .i64 y] := BlkV.set_ h 0 (.int .i64 y)
theorem err_zero : (Try.prog.info? 27).map (·.zero) = some (some (.int .i64 0)) := by kernel_rfl
end Go.Proofs.Ytpaomhgdpncdoaa
