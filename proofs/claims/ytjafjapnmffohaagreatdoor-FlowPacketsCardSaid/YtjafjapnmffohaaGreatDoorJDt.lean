/- Texts joined.
  The small calls by which detour gives up and is caught: demand, must, reason, and what each deferred closure does. No condition.
  detour.must of a header, whole: the fixed header of bytes that are as many as it says, or the error with which it gives up. Condition: at most 2^47 bytes.
  Regions that draw, where a way may give up; how a call that defers is left. No program but the closures' contracts. No condition.
  detour.routed: the fixed header, the routing header behind it, and how long that is; or the error with which it gives up. detour.Header. Condition: at most 2^47 - 4096 bytes.
  detour.Header: the routing header of any bytes. Condition: at most 2^47 - 4096 bytes.
  The page's words on packets with a header: what is got of a header that was put, and laid anew. No program here.
  detour.packet: a packet of a fixed header and of lists of bytes behind it, with the Length that fits. Condition: the header can be, the lists are at most 65535 bytes together.
  detour.Remove: any packet without its routing header. Condition: at most 2^47 - 4096 bytes.
  detour.Advance: any packet on its way to the next segment. Condition: at most 2^47 - 4096 bytes.
  Addresses in a row of the call's own: one is stored anew; slices.Clone, slices.Reverse of addresses. Condition: at most 2^31 addresses.
  detour.segments: by which segments a packet goes. Condition: 1 to 9 others.
  detour.Insert: any packet by way of others. Condition: at most 2^47 - 4096 bytes, others and parts.
-/
import Derived.Test.YtjafjapnmffohaaGreatDoorVals
import Derived.Tactics2
import Derived.Defers
import Derived.Recover
import Derived.Laws.Pointers
import Derived.WalkLawsBesides
import Derived.Test.YtjafjapnmffohaaGreatDoorJSx
import Derived.Test.YtjafjapnmffohaaGreatDoorJSy
import Derived.Test.YtjafjapnmffohaaGreatDoorJReg
import Derived.Test.YtjafjapnmffohaaGreatDoorJSrB
import Derived.Test.YtjafjapnmffohaaGreatDoorLawSxG
import Derived.Test.YtjafjapnmffohaaGreatDoorJOct
import Derived.Test.YtjafjapnmffohaaGreatDoorJSrA
import Derived.Test.YtjafjapnmffohaaGreatDoorSlc
import Derived.Lib.SliceRun
set_option maxRecDepth 100000
namespace Go.Proofs.YtjafjapnmffohaaGreatDoor
open Go.RowKit
set_option linter.unusedVariables false

/-- the error that is thrown, and a call that gives up with it -/
def errV (er : Int) : Value := .iface 39 (.int .i64 er)
def Thrown (er : Int) : Ending := .panicked [{ v := errV er, recovered := false }]

theorem results_nilD {P : Program} {fn : Func} (h : fn.results = #[]) (tmps : Array Value) (w : World) : (results fn tmps).run P w = .ok (.tuple #[]) w := by
  simp [results, h]
end Go.Proofs.YtjafjapnmffohaaGreatDoor

namespace Go.Proofs.YtjafjapnmffohaaGreatDoor
open Go.RowKit
set_option linter.unusedVariables false

theorem results_cell1 {P : Program} {fn : Func} {p : Tmp} {ty : TypeId} (h : fn.results = #[.cell p ty]) (tmps : Array Value) (w : World) (g : Nat) (t : TypeId) (cs : Array Value) (fr : Nat × Nat) (d : TypeDesc)
    (hp : tmps.getD p undef = .pointer (some ⟨g, 0, none⟩)) (hg : w.heap[g]? = some (.cells cs t fr))
    (hu : P.underlying ty = some d) (hd : (match d with | .struct _ | .array _ _ => true | _ => false) = true) (hi : (P.info? ty).map (·.size) = some cs.size) :
    (results fn tmps).run P w = .ok (.agg cs) w := by
  have hp' : tmps[p]?.getD undef = .pointer (some ⟨g, 0, none⟩) := by simpa using hp
  simp [results, h, hp', asAddr, run_loadVar_row w g t ty cs fr d hg hu hd hi]
theorem ret_head1 {w' : World} {fn : Func} {p : Tmp} {tmps : Array Value} {df : List Deferred} {g : Nat} {h : Hd} {R : Ending → World → Prop} (hr : fn.results = #[.cell p 26]) (hp : tmps.getD p undef = .pointer (some ⟨g, 0, none⟩))
    (hb : BlkH w' g h) (hs : h.s.length = 16) (hd : h.d.length = 16) (hR : R (.returned (headV h)) w') (hdf : df = []) : bodyPost Tryz.prog fn R .ret ⟨tmps, df⟩ w' := by
  subst hdf
  exact bodyPost_ret (v := .agg (headC h).toArray) (results_cell1 hr _ _ g _ _ _ _ hp hb Tryz.underlying26 rfl (by rw [head_size]; simp [headC_length hs hd])) rfl hR

/-- the header that whole tells, or why it gives up -/
def wholeE (xs : List Int) : Int := if getE xs = 0 then (if (getL xs).ln = (xs.length : Int) - 40 then 0 else 5) else getE xs
theorem wholeE_zero {xs : List Int} (h : wholeE xs = 0) : getE xs = 0 ∧ 40 ≤ xs.length ∧ xs.getD 0 0 / 16 = 6 ∧ getH xs = getL xs ∧ (getL xs).ln = (xs.length : Int) - 40 := by
  unfold wholeE at h
  rcases getE_cases xs with ⟨h1, h2, h3⟩ | ⟨h1, h2, h3, h4⟩ | ⟨h1, h2, h3, h4⟩
  · rw [h2] at h; simp at h
  · rw [h3, if_pos rfl] at h
    refine ⟨h3, h1, h2, h4, ?_⟩
    by_cases h5 : (getL xs).ln = (xs.length : Int) - 40
    · exact h5
    · rw [if_neg h5] at h; omega
  · rw [h3] at h; simp at h

section
variable (h : Hd) (w : World) (hk : h.ok)
include hk
omit hk in
end

section
variable (A : Option Addr) (n c : Nat) (xs : List Int) (w : World) (hn : n ≤ 140737488355328) (hc : n ≤ c) (hc2 : c ≤ 9223372036854775807) (hb : Bs w w.heap.size A n xs)
include hn hc hc2 hb
omit hc hc2 hn in
end
end Go.Proofs.YtjafjapnmffohaaGreatDoor

namespace Go.Proofs.YtjafjapnmffohaaGreatDoor
open Go.RowKit
set_option linter.unusedVariables false

section
variable {P : Program} {ops : Array Oper} {Q : Exit → Act → World → Prop} {S : World → Prop}
theorem held_of_planD (D : Option Tmp → Bool) (hs : Region.noSelect ops = true) (hD : ops.all (fun o => D o.dst) = true) (hQ : ∀ c a d v w, D d = true → Q (.panic c) (Act.put a d v) w → Q (.panic c) a w) :
    ∀ (r : Plan) (n : Nat) (listed : Array Bool) (a : Act) (w : World), S w → planB ops r n listed = true → walkS P ops Q S r a w → wpAnyH P .any ops Q S n listed a w
  | .done, n, listed, a, w, _, ho, h => wpAnyH_done (by simpa [planB] using ho) h n
  | .rd i r, n + 1, listed, a, w, hS, ho, h => by
    simp only [planB, Bool.and_eq_true] at ho
    obtain ⟨o, v, hi, hy, hw⟩ := h
    have hd : D o.dst = true := by
      have := Array.all_eq_true_iff_forall_mem.1 hD o (Array.mem_of_getElem? hi)
      simpa using this
    exact wpAnyH_take hi hs ho.1.2 ho.1.1 (fun c a w => hQ c a _ _ w hd) hy hS (held_of_planD D hs hD hQ r n _ _ w hS ho.2 hw)
  | .act i r, n + 1, listed, a, w, hS, ho, h => by
    simp only [planB, Bool.and_eq_true, beq_iff_eq] at ho
    refine wpAnyH_all ho.1 (by simp) fun j hj => ?_
    obtain rfl : j = i := by simpa using hj
    exact wpOp_mono (fun a' w' h' => ⟨h'.1, held_of_planD D hs hD hQ r n _ a' w' h'.1 ho.2 h'.2⟩) h
  | .fork i p j q, n + 1, listed, a, w, hS, ho, h => by
    simp only [planB, Bool.and_eq_true, beq_iff_eq] at ho
    refine wpAnyH_all ho.1.1 (by simp) fun k hk => ?_
    rcases List.mem_cons.1 hk with rfl | hk
    · exact wpOp_mono (fun a' w' h' => ⟨h'.1, held_of_planD D hs hD hQ p n _ a' w' h'.1 ho.1.2 h'.2⟩) h.1
    · obtain rfl : k = j := by simpa using hk
      exact wpOp_mono (fun a' w' h' => ⟨h'.1, held_of_planD D hs hD hQ q n _ a' w' h'.1 ho.2 h'.2⟩) h.2
  | .rd _ _, 0, _, _, _, _, ho, _ => by simp [planB] at ho
  | .act _ _, 0, _, _, _, _, ho, _ => by simp [planB] at ho
  | .fork _ _ _ _, 0, _, _, _, _, ho, _ => by simp [planB] at ho

/-- what holds where a region is left, but a way that gives up is told by R alone -/
def orThrow (R : List PanicEntry → Act → World → Prop) (Q : Exit → Act → World → Prop) : Exit → Act → World → Prop
  | .panic c, a, w => R c a w
  | e, a, w => Q e a w
/-- a region that draws, of which a call may give up: R is what holds then, whatever was read -/
theorem wp_region_planD {id : Nat} {a : Act} {w : World} (S : World → Prop) (R : List PanicEntry → Act → World → Prop) (r : Plan) (D : Option Tmp → Bool) (hm : P.follows .mixedOrders = true) (hs : Region.noSelect ops = true) (hD : ops.all (fun o => D o.dst) = true)
    (hR : ∀ c a d v w, D d = true → R c (Act.put a d v) w → R c a w) (hRQ : ∀ c a w, R c a w → Q (.panic c) a w) (ho : planB ops r ops.size (Array.replicate ops.size false) = true) (hS : S w.drew)
    (h : walkS P ops (orThrow R Q) S r a w.drew) : (Code.region id ops true).wp P Q a w :=
  Code.wp_mono (Q := orThrow R Q) (fun e a' w' hq => by cases e with | panic c => exact hRQ c a' w' hq | _ => exact hq) (wp_region_held hm (held_of_planD (Q := orThrow R Q) D hs hD (fun c a d v w hd hq => hR c a d v w hd hq) r ops.size _ a _ hS ho h))
/-- none gives up -/
theorem wp_region_planN {id : Nat} {a : Act} {w : World} (S : World → Prop) (r : Plan) (hm : P.follows .mixedOrders = true) (hs : Region.noSelect ops = true) (ho : planB ops r ops.size (Array.replicate ops.size false) = true) (hS : S w.drew)
    (h : walkS P ops (orThrow (fun _ _ _ => False) Q) S r a w.drew) : (Code.region id ops true).wp P Q a w :=
  wp_region_planD S (fun _ _ _ => False) r (fun _ => true) hm hs (by simp) (fun _ _ _ _ _ _ h => h) (fun _ _ _ h => h.elim) ho hS h
end

section
variable {P : Program} {F : FuncId} {fn : Func} {tmps : Array Value} {R : Ending → World → Prop} {p : Addr} {w : World}
/-- a call that defers one closure is left by a return -/
theorem door_ret (hi : (invoke (.fn (.func F) #[.pointer (some p)]) #[]).run P w = .ok (.enter F #[.pointer (some p)]) w)
    (hc : CallsD P F #[.pointer (some p)] .returning w fun e u' w' => e = .returned (.tuple #[]) ∧ u' = .returning ∧ w' = w.setCell p (.int .i64 0))
    (v : Value) (hr : (results fn tmps).run P (w.setCell p (.int .i64 0)) = .ok v (w.setCell p (.int .i64 0))) (hR : R (.returned v) (w.setCell p (.int .i64 0))) :
    bodyPostD P fn R .ret ⟨tmps, [{ target := .fn (.func F) #[.pointer (some p)], args := #[] }]⟩ w := by
  show Leaves P fn tmps R _ .returning w
  refine leaves_cons (by simp) hi (hc.mono ?_)
  rintro e u' w' ⟨rfl, rfl, rfl⟩
  exact ⟨v, hr, hR⟩
/-- it is left by a panic, which the closure tells as an error -/
theorem door_panic (er : Int) (hi : (invoke (.fn (.func F) #[.pointer (some p)]) #[]).run P w = .ok (.enter F #[.pointer (some p)]) w)
    (hc : CallsD P F #[.pointer (some p)] (.panicking ({ v := errV er, recovered := false } :: [])) w fun e u' w' => e = .returned (.tuple #[]) ∧ u' = .panicking ({ v := errV er, recovered := true } :: []) ∧ w' = w.setCell p (.int .i64 er))
    (v : Value) (hr : (results fn tmps).run P (w.setCell p (.int .i64 er)) = .ok v (w.setCell p (.int .i64 er))) (hR : R (.returned v) (w.setCell p (.int .i64 er))) :
    bodyPostD P fn R (.panic [{ v := errV er, recovered := false }]) ⟨tmps, [{ target := .fn (.func F) #[.pointer (some p)], args := #[] }]⟩ w := by
  show Leaves P fn tmps R _ (.panicking [{ v := errV er, recovered := false }]) w
  refine leaves_cons (by simp) hi (hc.mono ?_)
  rintro e u' w' ⟨rfl, rfl, rfl⟩
  exact ⟨v, hr, hR⟩
end
theorem run_loadErr (w : World) (g : Nat) (x : Int) (hc : w.cell? ⟨g, 0, none⟩ = some (.int .i64 x)) : (loadVar 39 ⟨g, 0, none⟩).run Tryz.prog w = .ok (.int .i64 x) w := by
  simp [loadVar, isAgg, run_underlying Tryz.underlying39, hc, go_sem]
theorem results_tmp_cell {fn : Func} {p q : Tmp} (h : fn.results = #[.tmp p, .cell q 39]) (tmps : Array Value) (w : World) (g : Nat) (v : Value) (x : Int)
    (hp : tmps.getD p undef = v) (hq : tmps.getD q undef = .pointer (some ⟨g, 0, none⟩)) (hc : w.cell? ⟨g, 0, none⟩ = some (.int .i64 x)) : (results fn tmps).run Tryz.prog w = .ok (.tuple #[v, .int .i64 x]) w := by
  have hp' : tmps[p]?.getD undef = v := by simpa using hp
  have hq' : tmps[q]?.getD undef = .pointer (some ⟨g, 0, none⟩) := by simpa using hq
  simp [results, h, hp', hq', asAddr, run_loadErr w g x hc]
theorem results_cell_tmp_cell {fn : Func} {p q r : Tmp} (h : fn.results = #[.cell p 30, .tmp q, .cell r 39]) (tmps : Array Value) (w : World) (g g2 : Nat) (s : Sr) (v : Value) (x : Int)
    (hp : tmps.getD p undef = .pointer (some ⟨g, 0, none⟩)) (hb : BlkR w g s) (hq : tmps.getD q undef = v) (hr : tmps.getD r undef = .pointer (some ⟨g2, 0, none⟩)) (hc : w.cell? ⟨g2, 0, none⟩ = some (.int .i64 x)) : (results fn tmps).run Tryz.prog w = .ok (.tuple #[srV s, v, .int .i64 x]) w := by
  have hp' : tmps[p]?.getD undef = .pointer (some ⟨g, 0, none⟩) := by simpa using hp
  have hq' : tmps[q]?.getD undef = v := by simpa using hq
  have hr' : tmps[r]?.getD undef = .pointer (some ⟨g2, 0, none⟩) := by simpa using hr
  simp [results, h, hp', hq', hr', asAddr, run_loadErr w g2 x hc, run_loadVar_row w g 30 30 (srC s).toArray _ _ hb Tryz.underlying30 rfl (by rw [sr_size]; rfl), srV]
/-- bytes are where no number is -/
theorem Bs.setNum {w : World} {B n : Nat} {A : Option Addr} {xs : List Int} (h : Bs w B A n xs) {p : Addr} {x : Int} (hp : w.cell? p = some (.int .i64 x)) (u : Value) : Bs (w.setCell p u) B A n xs :=
  ⟨h.len, h.all, fun hn => by
    obtain ⟨b, o, e, hb, hc⟩ := h.mem hn
    refine ⟨b, o, e, hb, fun i hi => ?_⟩
    rw [World.cell?_setCell_other, hc i hi]
    intro e2
    have h1 := hc i hi
    rw [← e2, hp] at h1
    injection h1 with h1
    injection h1 with h1 _
    cases h1⟩
/-- the error's cell -/
theorem blkE {w : World} {g : Nat} {x : Int} (h : BlkV w 39 g [.int .i64 x]) (y : Int) : BlkV (w.setCell ⟨g, 0, none⟩ (.int .i64 y)) 39 g [.int .i64 y] := BlkV.set_ h 0 (.int .i64 y)
theorem err_zero : (Tryz.prog.info? 39).map (·.zero) = some (some (.int .i64 0)) := by kernel_rfl
end Go.Proofs.YtjafjapnmffohaaGreatDoor

namespace Go.Proofs.YtjafjapnmffohaaGreatDoor
open Go.RowKit
set_option linter.unusedVariables false

/-- the error of Header -/
def hdrE (xs : List Int) : Int := if wholeE xs = 0 then (if (getL xs).nx = 43 then errR (xs.drop 40) else 7) else wholeE xs
def hdrR (xs : List Int) : Rb := if hdrE xs = 0 then saysR (xs.drop 40) else zeroRb
def hdrN (xs : List Int) : Nat := if hdrE xs = 0 then wideR (xs.drop 40) else 0
theorem hdrE_zero {xs : List Int} (h : hdrE xs = 0) : wholeE xs = 0 ∧ (getL xs).nx = 43 ∧ errR (xs.drop 40) = 0 := by
  unfold hdrE at h
  by_cases h1 : wholeE xs = 0
  · rw [if_pos h1] at h
    by_cases h2 : (getL xs).nx = 43
    · rw [if_pos h2] at h; exact ⟨h1, h2, h⟩
    · rw [if_neg h2] at h; omega
  · rw [if_neg h1] at h; exact absurd h h1
theorem ret_routed {fn : Func} {p q r : Tmp} {R : Ending → World → Prop} {tmps : Array Value} {df : List Deferred} {w : World} {g g2 : Nat} {h : Hd} {s : Sr} {l : Int} (hfn : fn.results = #[.cell p 26, .cell q 30, .tmp r]) (hp : tmps.getD p undef = .pointer (some ⟨g, 0, none⟩)) (hq : tmps.getD q undef = .pointer (some ⟨g2, 0, none⟩)) (hr : tmps.getD r undef = .int .i64 l)
    (hb : BlkH w g h) (hs : h.s.length = 16) (hd : h.d.length = 16) (hb2 : BlkR w g2 s) (hR : R (.returned (.tuple #[headV h, srV s, .int .i64 l])) w) (hdf : df = []) : bodyPost Tryz.prog fn R .ret ⟨tmps, df⟩ w := by
  subst hdf
  have hp' : tmps[p]?.getD undef = .pointer (some ⟨g, 0, none⟩) := by simpa using hp
  have hq' : tmps[q]?.getD undef = .pointer (some ⟨g2, 0, none⟩) := by simpa using hq
  have hr' : tmps[r]?.getD undef = .int .i64 l := by simpa using hr
  refine bodyPost_ret (v := .tuple #[headV h, srV s, .int .i64 l]) ?_ rfl hR
  simp [results, hfn, hp', hq', hr', asAddr, run_loadVar_row w g 26 26 (headC h).toArray _ _ hb Tryz.underlying26 rfl (by rw [head_size]; simp [headC_length hs hd]), run_loadVar_row w g2 30 30 (srC s).toArray _ _ hb2 Tryz.underlying30 rfl (by rw [sr_size]; rfl), srV, headV]

/-- stores into whole rows, with what stays -/
theorem wp_store_head {o : Oper} {a : Act} {w : World} {K : Act → World → Prop} {Q : Exit → Act → World → Prop} (x y : Operand) (ho : o.op = .store 26 x y) (g : Nat) (hx : a.eval x = .pointer (some ⟨g, 0, none⟩)) (h : Hd) (hy : a.eval y = .agg (headC h).toArray) (old : Hd) (hb : BlkH w g old)
    (hos : old.s.length = 16) (hod : old.d.length = 16) (hs : h.s.length = 16) (hd : h.d.length = 16)
    (hk : ∀ w', BlkH w' g h → Below g w w' → w'.heap.size = w.heap.size → (∀ k : Nat, k ≠ g → w'.heap[k]? = w.heap[k]?) → K (a.put o.dst undef) w') : o.wp Tryz.prog a w K Q :=
  wp_store_row 26 x y ho g _ hx hy _ _ hb (by rw [head_size]; simp [headC_length hs hd]) (by simp [headC_length hs hd, headC_length hos hod])
    (by rw [Array.all_eq_true_iff_forall_mem]; intro v hv; exact headC_one h v (by simpa using hv)) (hk _ (BlkV.setRow hb _) (low_setRow _ _ _ (Nat.le_refl _)) (by simp) (fun k hk => by simp [World.setRow, Array.getElem?_modify, Ne.symm hk]))
theorem wp_store_sr {o : Oper} {a : Act} {w : World} {K : Act → World → Prop} {Q : Exit → Act → World → Prop} (x y : Operand) (ho : o.op = .store 30 x y) (g : Nat) (hx : a.eval x = .pointer (some ⟨g, 0, none⟩)) (s : Sr) (hy : a.eval y = .agg (srC s).toArray) (old : Sr) (hb : BlkR w g old)
    (hk : ∀ w', BlkR w' g s → Below g w w' → w'.heap.size = w.heap.size → (∀ k : Nat, k ≠ g → w'.heap[k]? = w.heap[k]?) → K (a.put o.dst undef) w') : o.wp Tryz.prog a w K Q :=
  wp_store_row 30 x y ho g _ hx hy _ _ hb (by rw [sr_size]; rfl) rfl (srC_one s) (hk _ (BlkV.setRow hb _) (low_setRow _ _ _ (Nat.le_refl _)) (by simp) (fun k hk => by simp [World.setRow, Array.getElem?_modify, Ne.symm hk]))
/-- a header stays where only other blocks change -/
theorem Sr.ok.others {w w' : World} {B lo : Nat} {s : Sr} (h : s.ok w B) (hf : s.from_ lo) (hk : ∀ k : Nat, lo ≤ k → w'.heap[k]? = w.heap[k]?) : s.ok w' B := h.upper hf fun p hp _ => World.cell?_of_block (hk _ hp)

section
variable (A : Option Addr) (n c : Nat) (xs : List Int) (w : World) (hn : n ≤ 140737488355328) (hc : n ≤ c) (hc2 : c ≤ 9223372036854775807) (hb : Bs w w.heap.size A n xs)
include hn hc hc2 hb
end
end Go.Proofs.YtjafjapnmffohaaGreatDoor

namespace Go.Proofs.YtjafjapnmffohaaGreatDoor
open Go.RowKit
set_option linter.unusedVariables false

theorem wpList_alloc_e {ops : Array Oper} {rest : List Oper} {o : Oper} {a : Act} {w : World} {Q : Exit → Act → World → Prop} (hgd : o.guard = none) (ho : o.op = .alloc 39)
    (hk : ∀ w', BlkV w' 39 w.heap.size [.int .i64 0] → Low w w' → w'.heap.size = w.heap.size + 1 → wpList Tryz.prog ops Q rest (a.put o.dst (.pointer (some ⟨w.heap.size, 0, none⟩))) w') : wpList Tryz.prog ops Q (o :: rest) a w :=
  wpList_plain hgd fun K hK => by
    cases hq : Tryz.prog.info? 39 with
    | none => have := err_zero; simp [hq] at this
    | some i =>
      have hz' : i.zero = some (.int .i64 0) := by have := err_zero; simpa [hq] using this
      unfold Oper.wp execOp
      simp only [ho, Instr.alloc, zeroValue, typeInfo, run_program, hq, hz', newVar, newRow, Value.cells, Sem.run_bind, run_newObj, Result.andThen_ok, Sem.run_pure]
      exact hK _ _ (hk _ (BlkV.new w 39 [.int .i64 0]) (Low.alloc w _) (by simp))
theorem wpList_store_headB {ops : Array Oper} {rest : List Oper} {o : Oper} {a : Act} {w : World} {Q : Exit → Act → World → Prop} (hgd : o.guard = none) (x y : Operand) (ho : o.op = .store 26 x y) (g : Nat) (hx : a.eval x = .pointer (some ⟨g, 0, none⟩)) (h : Hd) (hy : a.eval y = .agg (headC h).toArray) (old : Hd) (hb : BlkH w g old)
    (hos : old.s.length = 16) (hod : old.d.length = 16) (hs : h.s.length = 16) (hd : h.d.length = 16)
    (hk : ∀ w', BlkH w' g h → Below g w w' → w'.heap.size = w.heap.size → (∀ k : Nat, k ≠ g → w'.heap[k]? = w.heap[k]?) → wpList Tryz.prog ops Q rest (a.put o.dst undef) w') : wpList Tryz.prog ops Q (o :: rest) a w :=
  wpList_plain hgd fun K hK => wp_store_head x y ho g hx h hy old hb hos hod hs hd fun w' a1 a2 a3 a4 => hK _ _ (hk w' a1 a2 a3 a4)
theorem wpList_store_srB {ops : Array Oper} {rest : List Oper} {o : Oper} {a : Act} {w : World} {Q : Exit → Act → World → Prop} (hgd : o.guard = none) (x y : Operand) (ho : o.op = .store 30 x y) (g : Nat) (hx : a.eval x = .pointer (some ⟨g, 0, none⟩)) (s : Sr) (hy : a.eval y = .agg (srC s).toArray) (old : Sr) (hb : BlkR w g old)
    (hk : ∀ w', BlkR w' g s → Below g w w' → w'.heap.size = w.heap.size → (∀ k : Nat, k ≠ g → w'.heap[k]? = w.heap[k]?) → wpList Tryz.prog ops Q rest (a.put o.dst undef) w') : wpList Tryz.prog ops Q (o :: rest) a w :=
  wpList_plain hgd fun K hK => wp_store_sr x y ho g hx s hy old hb fun w' a1 a2 a3 a4 => hK _ _ (hk w' a1 a2 a3 a4)
theorem BlkV.others {w w' : World} {t : TypeId} {g g' : Nat} {vs : List Value} (h : BlkV w t g vs) (hk : ∀ k : Nat, k ≠ g' → w'.heap[k]? = w.heap[k]?) (hg : g ≠ g') : BlkV w' t g vs := (hk g hg).trans h
theorem setCell_others (w : World) (p : Addr) (u : Value) : ∀ k : Nat, k ≠ p.block → (w.setCell p u).heap[k]? = w.heap[k]? := fun k hk => Below.heap_setCell w p u k hk
theorem BlkE.c {w : World} {g : Nat} {x : Int} (h : BlkV w 39 g [.int .i64 x]) : w.cell? ⟨g, 0, none⟩ = some (.int .i64 x) := h.cell 0
theorem BlkE.f {w : World} {g : Nat} {x : Int} (h : BlkV w 39 g [.int .i64 x]) : w.frozen? ⟨g, 0, none⟩ = false := h.frozen 0
theorem hdrE_whole {xs : List Int} (h : wholeE xs ≠ 0) : hdrE xs = wholeE xs := by unfold hdrE; rw [if_neg h]
theorem hdrE_kind {xs : List Int} (h : wholeE xs = 0) (h2 : (getL xs).nx ≠ 43) : hdrE xs = 7 := by unfold hdrE; rw [if_pos h, if_neg h2]
theorem hdrE_parse {xs : List Int} (h : wholeE xs = 0) (h2 : (getL xs).nx = 43) : hdrE xs = errR (xs.drop 40) := by unfold hdrE; rw [if_pos h, if_pos h2]

section
variable (A : Option Addr) (n c : Nat) (xs : List Int) (w : World) (hn : n ≤ 140737488355328) (hc : n ≤ c) (hc2 : c ≤ 9223372036854775807) (hb : Bs w w.heap.size A n xs)
include hn hc hc2 hb
/-- a routing header, its length and an error are told -/
def GivesHd (w : World) (xs : List Int) (e : Ending) (w' : World) : Prop :=
  ∃ s : Sr, e = .returned (.tuple #[srV s, .int .i64 (hdrN xs), .int .i64 (hdrE xs)]) ∧ s.v = hdrR xs ∧ s.ok w' w'.heap.size ∧ s.from_ w.heap.size ∧ Low w w'
end
end Go.Proofs.YtjafjapnmffohaaGreatDoor

namespace Go.Proofs.YtjafjapnmffohaaGreatDoor
open Go.RowKit
set_option linter.unusedVariables false

theorem getE_back {h : Hd} {ys : List Int} (hk : h.ok) (hc : canB h = true) : getE (headL h ++ ys) = 0 := (get_back h ys hk hc).1
theorem getL_back {h : Hd} {ys : List Int} (hk : h.ok) (hc : canB h = true) : getL (headL h ++ ys) = h := by
  have h1 := (get_back h ys hk hc).2
  unfold getH at h1
  rw [if_pos (getE_back hk hc)] at h1
  exact h1
theorem drop_back {h : Hd} {ys : List Int} (hk : h.ok) : (headL h ++ ys).drop 40 = ys := List.drop_left' (headL_length hk)
theorem len_back {h : Hd} {ys : List Int} (hk : h.ok) : (headL h ++ ys).length = 40 + ys.length := by rw [List.length_append, headL_length hk]
theorem putL_yes {h : Hd} (hc : canB h = true) : putL h = headL h := by unfold putL; rw [if_pos hc]
theorem sizedH_can {h : Hd} {m : Int} (hc : canB h = true) (h0 : 0 ≤ m) (h1 : m ≤ 65535) : canB (sizedH m h) = true := by
  have := can_range hc
  unfold canB sizedH
  rw [decide_eq_true_eq]
  dsimp only
  omega
theorem sized_out {h : Hd} {ys : List Int} {N : Nat} (hk : h.ok) (hc : canB h = true) (hl : ys.length = N) (hN : N ≤ 65535) :
    outE (headL h ++ ys) (szE (headL h ++ ys)) = 0 ∧ outL (headL h ++ ys) (szH (headL h ++ ys)) (szE (headL h ++ ys)) = headL (sizedH (N : Int) h) ++ ys := by
  have hlen : ((headL h ++ ys).length : Int) - 40 = N := by rw [len_back hk, hl]; omega
  have e1 : szE (headL h ++ ys) = 0 := by unfold szE; rw [hlen, if_neg (by omega)]
  have e2 : szH (headL h ++ ys) = sizedH (N : Int) h := by unfold szH; rw [hlen, if_neg (by omega), getL_back hk hc]
  have e3 : outE (headL h ++ ys) 0 = 0 := by unfold outE; rw [if_pos (getE_back hk hc)]
  rw [e1]
  refine ⟨e3, ?_⟩
  unfold outL
  rw [if_pos e3, e2, putL_yes (sizedH_can hc (by omega) (by omega)), drop_back hk]
end Go.Proofs.YtjafjapnmffohaaGreatDoor

namespace Go.Proofs.YtjafjapnmffohaaGreatDoor
open Go.RowKit
set_option linter.unusedVariables false

end Go.Proofs.YtjafjapnmffohaaGreatDoor

namespace Go.Proofs.YtjafjapnmffohaaGreatDoor
open Go.RowKit
set_option linter.unusedVariables false

def setNx (x : Int) (h : Hd) : Hd := { h with nx := x }
theorem setNx_ok {x : Int} {h : Hd} (hk : h.ok) (hx : i64ok x) : (setNx x h).ok := ⟨hk.cl, hk.lb, hk.ln, hx, hk.hp, hk.s, hk.d, hk.vs, hk.vd⟩
theorem setNx_can {x : Int} {h : Hd} (hc : canB h = true) (h0 : 0 ≤ x) (h1 : x ≤ 255) : canB (setNx x h) = true := by
  have := can_range hc
  unfold canB setNx
  rw [decide_eq_true_eq]
  dsimp only
  omega
theorem toH_can {d : List Int} {h : Hd} (hc : canB h = true) : canB (toH d h) = true := hc
/-- the fixed header of a packet without its routing header, but for its Length -/
def offH (xs : List Int) : Hd := toH (segR (saysR (xs.drop 40)).sg 0) (setNx (saysR (xs.drop 40)).nx (getL xs))
def remL (xs : List Int) : List Int := if hdrE xs = 0 then headL (sizedH ((xs.length - (40 + wideR (xs.drop 40)) : Nat) : Int) (offH xs)) ++ xs.drop (40 + wideR (xs.drop 40)) else []
theorem hdr_room {xs : List Int} (ha : AllB xs) (h : hdrE xs = 0) : 40 + wideR (xs.drop 40) ≤ xs.length ∧ xs.length ≤ 65575 ∧ wideR (xs.drop 40) ≤ 2048 ∧ AllA (saysR (xs.drop 40)).sg ∧ 0 ≤ (saysR (xs.drop 40)).nx ∧ (saysR (xs.drop 40)).nx ≤ 255 := by
  obtain ⟨h1, h2, h3⟩ := hdrE_zero h
  obtain ⟨g1, g2, g3, g4, g5⟩ := wholeE_zero h1
  obtain ⟨a1, a2, a3, a4, a5, a6⟩ := aheadR_zero (errR_zero h3).1
  have hr := can_range (getL_can ha)
  have hd := ha.drop 40
  rw [List.length_drop] at a2
  have hf : fromR (xs.drop 40) = 8 + 16 * manyR (xs.drop 40) := rfl
  refine ⟨by omega, by omega, wideR_le hd, chunksR_all _ (hd.drop 8) (by rw [List.length_drop, List.length_drop]; omega), (hd.getD 0).1, ?_⟩
  have := (hd.getD 0).2
  show (xs.drop 40).getD 0 0 ≤ 255
  omega
theorem offH_ok {xs : List Int} (ha : AllB xs) (h : hdrE xs = 0) : (offH xs).ok ∧ canB (offH xs) = true := by
  obtain ⟨r1, r2, r3, r4, r5, r6⟩ := hdr_room ha h
  have h40 := (wholeE_zero (hdrE_zero h).1).2.1
  refine ⟨toH_ok (setNx_ok (getL_ok ha h40) (by unfold i64ok; omega)) (segR_len r4 0) ?_, toH_can (setNx_can (getL_can ha) r5 r6)⟩
  unfold segR
  split
  · exact (r4.getD _).2
  · exact zero_all
theorem walkS_done {P : Program} {ops : Array Oper} {S : World → Prop} {R : List PanicEntry → Act → World → Prop} {Q : Exit → Act → World → Prop} {a : Act} {w : World} (h : Q .normal a w) : walkS P ops (orThrow R Q) S .done a w := h
theorem GivesR.of {w w' : World} {n : Nat} {ys zs : List Int} {er er' : Int} {A : Option Addr} {c : Nat} (hy : ys = zs) (hx : er = er') (hl : zs.length = n) (hc : n ≤ c) (hc2 : c ≤ 9223372036854775807) (h : Bs w' w'.heap.size A n zs) (hB : Low w w') : GivesR w ys.length ys er (.returned (.tuple #[.slice A n c, .int .i64 er'])) w' := by
  subst hy hx hl
  exact ⟨A, c, rfl, hc, hc2, h, hB⟩

section
variable (A : Option Addr) (n c : Nat) (xs : List Int) (w : World) (hn : n ≤ 140737488355328) (hc : n ≤ c) (hc2 : c ≤ 9223372036854775807) (hb : Bs w w.heap.size A n xs)
include hn hc hc2 hb
end
end Go.Proofs.YtjafjapnmffohaaGreatDoor

namespace Go.Proofs.YtjafjapnmffohaaGreatDoor
open Go.RowKit
set_option linter.unusedVariables false

/-- where a row of the call's own lies: its cells may be stored into -/
theorem OwnB.spotD {t : TypeId} {w : World} {base n c : Nat} {A : Option Addr} {ys : List Int} (h : OwnB t w base A n c ys) (hn : 0 < n) :
    ∃ g, A = some ⟨g, 0, none⟩ ∧ base ≤ g ∧ g < w.heap.size ∧ (∀ i, i < n → w.cell? ⟨g, i, none⟩ = some (.int .u8 (ys.getD i 0))) ∧ (∀ i, w.frozen? ⟨g, i, none⟩ = false) ∧
      (∀ k x, k < n → 0 ≤ x → x < 256 → OwnB t (w.setCell ⟨g, k, none⟩ (.int .u8 x)) base (some ⟨g, 0, none⟩) n c (ys.set k x)) := by
  have hl := h.len
  have hb := h.bs (Nat.le_refl _)
  obtain ⟨⟨h1, h2⟩, ha⟩ := h
  rcases h2 with ⟨e, h0⟩ | ⟨g, cap, cur, hv, hbg, hg, hnc, hcm, hsz, htk⟩
  · omega
  · injection hv with hA hn' hc'
    subst hA hc'
    have hlt : g < w.heap.size := (Array.getElem?_eq_some_iff.1 hg).1
    refine ⟨g, rfl, hbg, hlt, fun i hi => ?_, fun i => by simp [World.frozen?, hg], fun k x hk h0 h1 => ⟨⟨by simp [cellsB_length, hl], .inr ⟨g, c, cur.setIfInBounds k (.int .u8 x), rfl, hbg, ?_, hnc, hcm, by simpa using hsz, ?_⟩⟩, ha.set k h0 h1⟩⟩
    · obtain ⟨b, o, e, _, hc⟩ := hb.mem hn
      injection e with e
      injection e with e1 e2 _
      subst e1 e2
      simpa using hc i hi
    · simp [World.setCell, Array.getElem?_modify, hg]
    · have e : cellsB (ys.set k x) = (cellsB ys).set k (.int .u8 x) := by simp [cellsB, List.map_set]
      rw [e, ← htk]
      simp [List.take_set]

/-- why a packet can't go on, and what it is then -/
def advE (xs : List Int) : Int := if hdrE xs = 0 then (if (saysR (xs.drop 40)).le = 0 then 10 else if (getL xs).hp ≤ 1 then 13 else 0) else hdrE xs
def advH (xs : List Int) : Hd := toH (segR (saysR (xs.drop 40)).sg ((saysR (xs.drop 40)).le - 1)) (nearH (getL xs))
def advL (xs : List Int) : List Int := if advE xs = 0 then (headL (advH xs) ++ xs.drop 40).set 43 ((saysR (xs.drop 40)).le - 1) else []
theorem hdr_left {xs : List Int} (ha : AllB xs) : 0 ≤ (saysR (xs.drop 40)).le ∧ (saysR (xs.drop 40)).le ≤ 255 := by
  have h := (ha.drop 40).getD 3
  show 0 ≤ (xs.drop 40).getD 3 0 ∧ (xs.drop 40).getD 3 0 ≤ 255
  omega
theorem nearH_can {h : Hd} (hc : canB h = true) (hp : 1 < h.hp) : canB (nearH h) = true := by
  have := can_range hc
  unfold canB nearH
  rw [decide_eq_true_eq]
  dsimp only
  omega
theorem segR_all {l : List (List Int)} (h : AllA l) (k : Int) : AllB (segR l k) := by
  unfold segR
  split
  · exact (h.getD _).2
  · exact zero_all
theorem near_hop {xs : List Int} (h : getE xs = 0) (hp : (getL xs).hp ≤ 1) : outE xs (neE xs) = 13 ∧ outL xs (neH xs) (neE xs) = [] := by
  have e1 : neE xs = 13 := by unfold neE; rw [if_pos hp]
  have e2 : outE xs 13 = 13 := by unfold outE; rw [if_pos h]
  rw [e1]
  exact ⟨e2, by unfold outL; rw [if_neg (by omega)]⟩
theorem near_out {xs : List Int} (ha : AllB xs) (h : getE xs = 0) (hp : ¬ (getL xs).hp ≤ 1) : outE xs (neE xs) = 0 ∧ outL xs (neH xs) (neE xs) = headL (nearH (getL xs)) ++ xs.drop 40 := by
  have e1 : neE xs = 0 := by unfold neE; rw [if_neg hp]
  have e2 : outE xs 0 = 0 := by unfold outE; rw [if_pos h]
  rw [e1]
  refine ⟨e2, ?_⟩
  unfold outL neH
  rw [if_pos e2, if_neg hp, putL_yes (nearH_can (getL_can ha) (by omega))]
theorem to_out {h : Hd} {d ys : List Int} (hk : h.ok) (hc : canB h = true) : outE (headL h ++ ys) 0 = 0 ∧ outL (headL h ++ ys) (toH d (getL (headL h ++ ys))) 0 = headL (toH d h) ++ ys := by
  have e2 : outE (headL h ++ ys) 0 = 0 := by unfold outE; rw [if_pos (getE_back hk hc)]
  refine ⟨e2, ?_⟩
  unfold outL
  rw [if_pos e2, getL_back hk hc, drop_back hk, putL_yes (toH_can hc)]
theorem put_getD (a : Act) (d : Option Tmp) (v : Value) (k : Nat) (h : d ≠ some k) : (a.put d v).tmps.getD k undef = a.tmps.getD k undef := by
  cases d with
  | none => rfl
  | some j =>
    have : j ≠ k := fun e => h (by rw [e])
    simp [Act.put, this]
theorem put_defers (a : Act) (d : Option Tmp) (v : Value) : (a.put d v).defers = a.defers := by cases d <;> rfl

section
variable (A : Option Addr) (n c : Nat) (xs : List Int) (w : World) (hn : n ≤ 140737488355328) (hc : n ≤ c) (hc2 : c ≤ 9223372036854775807) (hb : Bs w w.heap.size A n xs)
include hn hc hc2 hb
end
end Go.Proofs.YtjafjapnmffohaaGreatDoor

namespace Go.Proofs.YtjafjapnmffohaaGreatDoor
open Go.RowKit
set_option linter.unusedVariables false

theorem setCs_get : ∀ (us xs : List Value) (o j : Nat), o + us.length ≤ xs.length → (setCs xs o us)[j]? = if o ≤ j ∧ j < o + us.length then us[j - o]? else xs[j]?
  | [], xs, o, j, h => by
    rw [if_neg (by simp)]
    rfl
  | u :: r, xs, o, j, h => by
    rw [List.length_cons] at h
    have ih := setCs_get r (xs.set o u) (o + 1) j (by rw [List.length_set]; omega)
    show (setCs (xs.set o u) (o + 1) r)[j]? = _
    rw [ih]
    by_cases h1 : j = o
    · subst h1
      rw [if_neg (by omega), if_pos (by simp), Nat.sub_self, List.getElem?_set_self (by omega)]
      rfl
    · by_cases h2 : o + 1 ≤ j ∧ j < o + 1 + r.length
      · rw [if_pos h2, if_pos (by simp only [List.length_cons]; omega), show j - o = (j - (o + 1)) + 1 by omega, List.getElem?_cons_succ]
      · rw [if_neg h2, if_neg (by simp only [List.length_cons]; omega), List.getElem?_set_ne (by omega)]
theorem ownsRow_set {w : World} {base k n c g : Nat} {t : TypeId} {xs : List Value} (h : w.ownsRow base t k (.slice (some ⟨g, 0, none⟩) n c) n xs) (i : Nat) (u : Value) (hi : i < xs.length) : (w.setCell ⟨g, i, none⟩ u).ownsRow base t k (.slice (some ⟨g, 0, none⟩) n c) n (xs.set i u) := by
  obtain ⟨h1, h2⟩ := h
  refine ⟨by rw [List.length_set]; exact h1, ?_⟩
  rcases h2 with ⟨e, h0⟩ | ⟨g', cap, cur, hv, hbg, hg, hnc, hcm, hsz, htk⟩
  · cases e
  · injection hv with hA hn' hc'
    injection hA with hA
    injection hA with hA _ _
    subst hA hc'
    refine .inr ⟨g, c, cur.setIfInBounds i u, rfl, hbg, ?_, hnc, hcm, by simpa using hsz, ?_⟩
    · simp [World.setCell, Array.getElem?_modify, hg]
    · rw [← htk]
      simp [List.take_set]
theorem ownsRow_setCells {base k n c g : Nat} {t : TypeId} : ∀ (us : List Value) (o : Nat) (w : World) (xs : List Value), w.ownsRow base t k (.slice (some ⟨g, 0, none⟩) n c) n xs → o + us.length ≤ xs.length → (w.setCells g o us).ownsRow base t k (.slice (some ⟨g, 0, none⟩) n c) n (setCs xs o us)
  | [], _, _, _, h, _ => h
  | u :: r, o, w, xs, h, hl => by
    rw [List.length_cons] at hl
    exact ownsRow_setCells r (o + 1) _ _ (ownsRow_set h o u (by omega)) (by rw [List.length_set]; omega)
theorem AllA.set {l : List (List Int)} (h : AllA l) {s : List Int} (hs : s.length = 16) (ha : AllB s) (i : Nat) : AllA (l.set i s) := fun y hy => by
  rcases List.mem_or_eq_of_mem_set hy with h1 | h1
  · exact h y h1
  · rw [h1]; exact ⟨hs, ha⟩
theorem setD_get (l : List (List Int)) (i j : Nat) (s : List Int) (hi : i < l.length) : (l.set i s).getD j zero16 = if j = i then s else l.getD j zero16 := by
  by_cases h : j = i
  · subst h; simp [List.getD, hi]
  · rw [if_neg h]; simp [List.getD, List.getElem?_set_ne (Ne.symm h)]
theorem flatA_set {l : List (List Int)} (h : AllA l) {s : List Int} (hs : s.length = 16) (ha : AllB s) {i : Nat} (hi : i < l.length) : setCs (cellsB l.flatten) (i * 16) (cellsB s) = cellsB (l.set i s).flatten := by
  have hf := flatA_len h
  have hf2 := flatA_len (h.set hs ha i)
  rw [List.length_set] at hf2
  apply List.ext_getElem?
  intro j
  rw [setCs_get _ _ _ _ (by rw [cellsB_length, cellsB_length, hs, hf]; omega), cellsB_length, hs]
  by_cases hj : j < l.length * 16
  · have e : j = j / 16 * 16 + j % 16 := by omega
    rw [cellsB_get (xs := (l.set i s).flatten) (by rw [hf2]; exact hj)]
    have h3 : (l.set i s).flatten.getD j 0 = ((l.set i s).getD (j / 16) zero16).getD (j % 16) 0 := by
      have := flatA_get (h.set hs ha i) (i := j / 16) (j := j % 16) (by rw [List.length_set]; omega) (by omega)
      rw [← e] at this
      exact this
    rw [h3, setD_get l i _ s hi]
    by_cases hm : i * 16 ≤ j ∧ j < i * 16 + 16
    · rw [if_pos hm, if_pos (by omega), cellsB_get (by rw [hs]; omega), show j - i * 16 = j % 16 by omega]
    · rw [if_neg hm, if_neg (by omega), cellsB_get (by rw [hf]; exact hj)]
      have := flatA_get h (i := j / 16) (j := j % 16) (by omega) (by omega)
      rw [← e] at this
      rw [this]
  · rw [if_neg (by omega), List.getElem?_eq_none (by rw [cellsB_length, hf]; omega), List.getElem?_eq_none (by rw [cellsB_length, hf2]; omega)]
/-- one address of a row of the call's own is stored anew -/
theorem OwnA.setAt {t : TypeId} {w : World} {base n c g : Nat} {l : List (List Int)} (h : OwnA t w base (some ⟨g, 0, none⟩) n c l) {s : List Int} (hs : s.length = 16) (ha : AllB s) {i : Nat} (hi : i < n) : OwnA t (w.setCells g (i * 16) (cellsB s)) base (some ⟨g, 0, none⟩) n c (l.set i s) := by
  obtain ⟨h1, h2, h3⟩ := h
  have h4 := ownsRow_setCells (cellsB s) (i * 16) w _ h1 (by rw [cellsB_length, cellsB_length, hs, flatA_len h2, h3]; omega)
  rw [flatA_set h2 hs ha (by omega)] at h4
  exact ⟨h4, h2.set hs ha i, by rw [List.length_set]; exact h3⟩
theorem OwnA.form {t : TypeId} {w : World} {base n c : Nat} {A : Option Addr} {l : List (List Int)} (h : OwnA t w base A n c l) (hn : 0 < n) : ∃ g, A = some ⟨g, 0, none⟩ ∧ base ≤ g ∧ g < w.heap.size := by
  obtain ⟨g, cap, hv, hb, hlt⟩ := World.ownsRow.form h.1 hn
  injection hv with hA
  exact ⟨g, hA, hb, hlt⟩
theorem OwnA.there {t : TypeId} {w : World} {base n c g : Nat} {l : List (List Int)} (h : OwnA t w base (some ⟨g, 0, none⟩) n c l) {i : Nat} (hi : i < n) : w.there g (i * 16) 16 := fun j hj => by
  have hc : w.cell? ⟨g, i * 16 + j, none⟩ = some (.int .u8 (l.flatten.getD (i * 16 + j) 0)) := by
    have := World.ownsRow.cells h.1 (g := g) rfl (i * 16 + j) (.int .u8 (l.flatten.getD (i * 16 + j) 0)) (cellsB_get (by rw [flatA_len h.2.1, h.2.2]; omega))
    simpa [Addr.add_lit] using this
  refine ⟨by rw [hc]; rfl, ?_⟩
  obtain ⟨⟨h1, h2⟩, _⟩ := h
  rcases h2 with ⟨e, h0⟩ | ⟨g', cap, cur, hv, hbg, hg, hnc, hcm, hsz, htk⟩
  · cases e
  · injection hv with hA hn' hc'
    injection hA with hA
    injection hA with hA _ _
    subst hA
    simp [World.frozen?, hg]

theorem OwnA.fresh (w : World) (t : TypeId) {base : Nat} (hb : base ≤ w.heap.size) : OwnA t (w.alloc (.cells #[] t)) base (some ⟨w.heap.size, 0, none⟩) 0 0 [] :=
  ⟨⟨rfl, .inr ⟨w.heap.size, 0, #[], rfl, hb, heap_alloc_new w (.cells #[] t), Nat.le_refl _, by simp [maxLen], rfl, rfl⟩⟩, AllA.nil, rfl⟩
/-- the first k and the last k of a list are exchanged -/
theorem walkS_forkD {P : Program} {ops : Array Oper} {Q : Exit → Act → World → Prop} {S : World → Prop} {i j : Nat} {p q : Plan} {a : Act} {w : World} (h1 : walkS P ops Q S (.act i p) a w) (h2 : walkS P ops Q S (.act j q) a w) : walkS P ops Q S (.fork i p j q) a w := ⟨h1, h2⟩
def Mir (l l' : List (List Int)) (k : Nat) : Prop := l'.length = l.length ∧ ∀ a, a < l.length → l'.getD a zero16 = if a < k ∨ l.length ≤ a + k then l.getD (l.length - 1 - a) zero16 else l.getD a zero16
theorem Mir.zero (l : List (List Int)) : Mir l l 0 := ⟨rfl, fun a ha => by rw [if_neg (by omega)]⟩
theorem Mir.all {l l' : List (List Int)} {k : Nat} (h : Mir l l' k) (hk : l.length ≤ 2 * k + 1) : l' = l.reverse := by
  apply List.ext_getElem?
  intro a
  by_cases ha : a < l.length
  · have h2 := h.2 a ha
    have e1 : l'[a]? = some (l'.getD a zero16) := by rw [List.getD_eq_getElem?_getD, List.getElem?_eq_getElem (by rw [h.1]; exact ha)]; rfl
    have e2 : l.reverse[a]? = some (l.getD (l.length - 1 - a) zero16) := by
      rw [List.getElem?_reverse ha, List.getD_eq_getElem?_getD, List.getElem?_eq_getElem (by omega)]; rfl
    rw [e1, e2, h2]
    split
    · rfl
    · rw [show l.length - 1 - a = a by omega]
  · rw [List.getElem?_eq_none (by rw [h.1]; omega), List.getElem?_eq_none (by rw [List.length_reverse]; omega)]
theorem Mir.next {l l' : List (List Int)} {k : Nat} (h : Mir l l' k) (hk : 2 * k + 1 < l.length) : Mir l ((l'.set k (l'.getD (l.length - 1 - k) zero16)).set (l.length - 1 - k) (l'.getD k zero16)) (k + 1) := by
  refine ⟨by rw [List.length_set, List.length_set, h.1], fun a ha => ?_⟩
  rw [setD_get _ _ _ _ (by rw [List.length_set, h.1]; omega), setD_get _ _ _ _ (by rw [h.1]; omega)]
  by_cases h1 : a = l.length - 1 - k
  · rw [if_pos h1, if_pos (by omega), h.2 k (by omega), if_neg (by omega)]
    congr 1
    omega
  · rw [if_neg h1]
    by_cases h2 : a = k
    · subst h2
      rw [if_pos rfl, if_pos (by omega), h.2 _ (by omega), if_neg (by omega)]
    · rw [if_neg h2, h.2 a ha]
      by_cases h3 : a < k ∨ l.length ≤ a + k
      · rw [if_pos h3, if_pos (by omega)]
      · rw [if_neg h3, if_neg (by omega)]
end Go.Proofs.YtjafjapnmffohaaGreatDoor

namespace Go.Proofs.YtjafjapnmffohaaGreatDoor
open Go.RowKit
set_option linter.unusedVariables false

theorem OwnA.lowerD {t : TypeId} {w : World} {base base' n c : Nat} {A : Option Addr} {l : List (List Int)} (h : OwnA t w base A n c l) (hb : base' ≤ base) : OwnA t w base' A n c l :=
  ⟨⟨h.1.1, h.1.2.imp id fun ⟨a, b, cc, d, e, f⟩ => ⟨a, b, cc, d, by omega, f⟩⟩, h.2⟩
theorem wp_one_addrD {o : Oper} {a : Act} {w : World} {K : Act → World → Prop} {Q : Exit → Act → World → Prop} (x : Operand) (ho : o.op = .buildSlice 27 1 #[(0, x)]) (s : List Int) (hx : a.eval x = .agg (cellsB s).toArray) (hs : s.length = 16)
    (hk : K (a.put o.dst (.slice (some ⟨w.heap.size, 0, none⟩) 1 1)) (w.alloc (.cells (cellsB s).toArray 24))) : o.wp Tryz.prog a w K Q := by
  unfold Oper.wp execOp
  have h := run_one_addr s hs w
  rw [← hx] at h
  simp only [ho, Sem.run_bind, Sem.run_pure, Result.andThen_ok, List.map_toArray, List.map_cons, List.map_nil, h]
  exact hk
end Go.Proofs.YtjafjapnmffohaaGreatDoor

namespace Go.Proofs.YtjafjapnmffohaaGreatDoor
open Go.RowKit
set_option linter.unusedVariables false

/-- the routing header by way of l, with parts; why it can't be put in, and the packet then -/
def viaR (xs : List Int) (l : List (List Int)) (tl : List Ob) : Rb := ⟨(getL xs).nx, (l.length : Nat), 0, 0, (l ++ [(getL xs).d]).reverse, tl⟩
def insE (xs : List Int) (l : List (List Int)) (tl : List Ob) : Int :=
  if wholeE xs = 0 then (if (getL xs).nx = 43 ∨ (getL xs).nx = 0 then 7 else if l.length = 0 ∨ 9 < l.length then 8 else if canR (viaR xs l tl) = 0 then (if 1500 < xs.length + (putR (viaR xs l tl)).length then 4 else 0) else canR (viaR xs l tl)) else wholeE xs
def viaH (xs : List Int) (l : List (List Int)) : Hd := toH (l.getD 0 zero16) (setNx 43 (getL xs))
def insL (xs : List Int) (l : List (List Int)) (tl : List Ob) : List Int :=
  if insE xs l tl = 0 then headL (sizedH (((putR (viaR xs l tl)).length + (xs.length - 40) : Nat) : Int) (viaH xs l)) ++ (putR (viaR xs l tl) ++ xs.drop 40) else []
theorem insE_whole {xs : List Int} {l : List (List Int)} {tl : List Ob} (h : wholeE xs ≠ 0) : insE xs l tl = wholeE xs := by unfold insE; rw [if_neg h]
theorem insE_kind {xs : List Int} {l : List (List Int)} {tl : List Ob} (h : wholeE xs = 0) (h2 : (getL xs).nx = 43 ∨ (getL xs).nx = 0) : insE xs l tl = 7 := by unfold insE; rw [if_pos h, if_pos h2]
theorem insE_many {xs : List Int} {l : List (List Int)} {tl : List Ob} (h : wholeE xs = 0) (h2 : ¬ ((getL xs).nx = 43 ∨ (getL xs).nx = 0)) (h3 : l.length = 0 ∨ 9 < l.length) : insE xs l tl = 8 := by unfold insE; rw [if_pos h, if_neg h2, if_pos h3]
theorem insE_can {xs : List Int} {l : List (List Int)} {tl : List Ob} (h : wholeE xs = 0) (h2 : ¬ ((getL xs).nx = 43 ∨ (getL xs).nx = 0)) (h3 : ¬ (l.length = 0 ∨ 9 < l.length)) (h4 : canR (viaR xs l tl) ≠ 0) : insE xs l tl = canR (viaR xs l tl) := by unfold insE; rw [if_pos h, if_neg h2, if_neg h3, if_neg h4]
theorem insE_long {xs : List Int} {l : List (List Int)} {tl : List Ob} (h : wholeE xs = 0) (h2 : ¬ ((getL xs).nx = 43 ∨ (getL xs).nx = 0)) (h3 : ¬ (l.length = 0 ∨ 9 < l.length)) (h4 : canR (viaR xs l tl) = 0) (h5 : 1500 < xs.length + (putR (viaR xs l tl)).length) : insE xs l tl = 4 := by unfold insE; rw [if_pos h, if_neg h2, if_neg h3, if_pos h4, if_pos h5]
theorem insE_ok {xs : List Int} {l : List (List Int)} {tl : List Ob} (h : wholeE xs = 0) (h2 : ¬ ((getL xs).nx = 43 ∨ (getL xs).nx = 0)) (h3 : ¬ (l.length = 0 ∨ 9 < l.length)) (h4 : canR (viaR xs l tl) = 0) (h5 : ¬ 1500 < xs.length + (putR (viaR xs l tl)).length) : insE xs l tl = 0 := by unfold insE; rw [if_pos h, if_neg h2, if_neg h3, if_pos h4, if_neg h5]
theorem BlkV.atDst {w : World} {g : Nat} {h : Hd} (hb : BlkH w g h) (hs : h.s.length = 16) : w.rangeAt g 21 (cellsB h.d) := fun j v hv => by
  rw [hb.cell]
  show (headC h)[21 + j]? = some v
  rw [← hv, show 21 + j = (16 + j) + 1 + 1 + 1 + 1 + 1 by omega]
  show (cellsB h.s ++ cellsB h.d)[16 + j]? = _
  rw [List.getElem?_append_right (by rw [cellsB_length, hs]; omega), cellsB_length, hs, show 16 + j - 16 = j by omega]
theorem run_build_via (x y : Int) (A B : Option Addr) (n c m d : Nat) (w : World) : (Instr.build 30 #[(0, .int .i64 x), (1, .int .i64 y), (4, .slice A n c), (5, .slice B m d)]).run Tryz.prog w = .ok (.agg #[.int .i64 x, .int .i64 y, .int .i64 0, .int .i64 0, .slice A n c, .slice B m d]) w := by kernel_rfl

theorem setCells_others {g : Nat} : ∀ (us : List Value) (o : Nat) (w : World) (k : Nat), k ≠ g → (w.setCells g o us).heap[k]? = w.heap[k]?
  | [], _, _, _, _ => rfl
  | u :: r, o, w, k, h => (setCells_others r (o + 1) _ k h).trans (setCell_others w ⟨g, o, none⟩ u k h)
theorem OwnB.others {t : TypeId} {w w' : World} {base n c : Nat} {A : Option Addr} {ys : List Int} (h : OwnB t w base A n c ys) (hk : ∀ k : Nat, base ≤ k → w'.heap[k]? = w.heap[k]?) : OwnB t w' base A n c ys := by
  refine ⟨⟨h.1.1, ?_⟩, h.2⟩
  rcases h.1.2 with e | ⟨g, cap, cur, e, hbg, hg, r⟩
  · exact .inl e
  · exact .inr ⟨g, cap, cur, e, hbg, by rw [hk g hbg]; exact hg, r⟩
theorem wp_store_dst {o : Oper} {a : Act} {w : World} {K : Act → World → Prop} {Q : Exit → Act → World → Prop} (x y : Operand) (ho : o.op = .store 24 x y) (g : Nat) (hx : a.eval x = .pointer (some ⟨g, 21, none⟩)) (d : List Int) (hy : a.eval y = .agg (cellsB d).toArray)
    (h : Hd) (hb : BlkH w g h) (hs : h.s.length = 16) (hd : h.d.length = 16) (hn : d.length = 16)
    (hk : BlkH (w.setCells g 21 (cellsB d)) g (toH d h) → K (a.put o.dst undef) (w.setCells g 21 (cellsB d))) : o.wp Tryz.prog a w K Q :=
  wp_store_mid 24 x y ho g 21 (cellsB d).toArray hx hy (hb.there 21 _ (by simp [headC_length hs hd, cellsB_length, hn])) (by rw [addr_size]; simp [cellsB_length, hn])
    (all_oneCell_toArray (cellsB_one d)) (by
      have h2 := BlkV.setMid (cellsB d) 21 w _ hb
      rw [setCs_dst h d hs hd hn] at h2
      exact hk h2)
theorem viaH_ok {xs : List Int} {l : List (List Int)} (ha : AllB xs) (hl : 40 ≤ xs.length) (hv : AllA l) : (viaH xs l).ok ∧ canB (viaH xs l) = true :=
  ⟨toH_ok (setNx_ok (getL_ok ha hl) (by unfold i64ok; omega)) (hv.getD 0).1 (hv.getD 0).2, toH_can (setNx_can (getL_can ha) (by omega) (by omega))⟩

section
variable (A : Option Addr) (n c : Nat) (xs : List Int) (vA : Option Addr) (m vc : Nat) (l : List (List Int)) (tA : Option Addr) (tn tc : Nat) (os : List Od) (w : World)
    (hn : n ≤ 140737488355328) (hc : n ≤ c) (hc2 : c ≤ 9223372036854775807) (hb : Bs w w.heap.size A n xs) (hm : m ≤ 140737488351232) (hv : As w w.heap.size vA m l) (ht : tn ≤ 140737488351232) (hp : Os w w.heap.size tA tn os)
include hn hc hc2 hb hm hv ht hp
end
end Go.Proofs.YtjafjapnmffohaaGreatDoor
