/- Stage 19: what the program's own three functions are to tell, as propositions; what the laws ask of every program; the walk of ShiftMoves, given these. No condition. -/
import Derived.Test.YtjmpcmgnbamniaaShE
import Derived.Test.YtjmpcmgnbamniaaShC
import Derived.Deep.MidRow
set_option maxRecDepth 100000
namespace Go.Proofs.Ytjmpcmgnbamniaa
open Go.RowKit
set_option linter.unusedVariables false

def eqRws (a b : Rws) : Bool := a.n == b.n && (a.had == b.had && (a.has == b.has && a.kept == b.kept))
theorem eq_rws (a b : Rws) (w : World) : (Op.equalIn 10000 29 (.agg #[.int .i64 a.n, .int .i64 a.had, .int .i64 a.has, .int .i64 a.kept]) (.agg #[.int .i64 b.n, .int .i64 b.had, .int .i64 b.has, .int .i64 b.kept])).run Try.prog w = .ok (eqRws a b) w := by
  obtain ⟨a1, a2, a3, a4⟩ := a
  obtain ⟨b1, b2, b3, b4⟩ := b
  rw [run_equalIn_struct w 9999 29 _ _ (by simp only [Program.fieldsOf, Try.underlying29]) (by kernel_rfl)]
  simp only [Program.fieldsOf, Try.underlying29]
  have hp : ∀ (k : Nat) (cs : Array Value) (v : Value), cs[k]? = some v → (part 3 cs k).run Try.prog w = .ok v w := fun k cs v h => by simp [part, isAgg, run_underlying Try.underlying3, h]
  have he : ∀ x y : Int, (Op.equalIn 9999 3 (.int .i64 x) (.int .i64 y)).run Try.prog w = .ok (x == y) w := fun x y => run_equalIn_int w 9998 _ _ _ x y Try.underlying3
  rw [eqFields_step (by simp) (hp 0 _ (.int .i64 a1) rfl) (hp 0 _ (.int .i64 b1) rfl) (he a1 b1),
    eqFields_step (by simp) (hp 1 _ (.int .i64 a2) rfl) (hp 1 _ (.int .i64 b2) rfl) (he a2 b2),
    eqFields_step (by simp) (hp 2 _ (.int .i64 a3) rfl) (hp 2 _ (.int .i64 b3) rfl) (he a3 b3),
    eqFields_step (by simp) (hp 3 _ (.int .i64 a4) rfl) (hp 3 _ (.int .i64 b4) rfl) (he a4 b4)]
  simp only [Op.eqFields, Sem.run_pure, eqRws]
  generalize (a1 == b1) = x1
  generalize (a2 == b2) = x2
  generalize (a3 == b3) = x3
  generalize (a4 == b4) = x4
  cases x1 <;> cases x2 <;> cases x3 <;> cases x4 <;> rfl
theorem srow_size : (Try.prog.info? 29).map (·.size) = some 4 := by kernel_rfl
theorem wpList_load_mid_g {P : Program} {ops : Array Oper} {rest : List Oper} {op : Oper} {a : Act} {w : World} {Q : Exit → Act → World → Prop} (hw : Region.wanted op (yielded ops a.tmps) = true) (ty : TypeId) (x : Operand) (ho : op.op = .load ty x)
    (b o : Nat) (hx : a.eval x = .pointer (some ⟨b, o, none⟩)) (cs : List Value) (d : TypeDesc) (hc : w.rangeAt b o cs)
    (hu : P.underlying ty = some d) (hd : d.isRow = true) (hi : (P.info? ty).map (·.size) = some cs.length)
    (h : wpList P ops Q rest (a.put op.dst (.agg cs.toArray)) w) : wpList P ops Q (op :: rest) a w :=
  wpList_step fun K hK => by
    simp only [hw, if_true]
    exact wp_load_mid ty x ho b o hx cs d hc hu hd hi (hK _ _ h)
def ShRows : Prop := ∀ (A B : Option Addr) (n c k d : Nat) (was is_ : List Int) (w : World), n ≤ 200 → k ≤ 200 → n ≤ c → k ≤ d → Ns w w.heap.size A n was → Ns w w.heap.size B k is_ → Calls Try.prog 7 #[.slice A n c, .slice B k d] w (GivesRw w (rowsS was is_))
def ShMoveds : Prop := ∀ (A B : Option Addr) (n c k d : Nat) (was is_ : List Int) (w : World), n ≤ 200 → k ≤ 200 → n ≤ c → k ≤ d → Ns w w.heap.size A n was → Ns w w.heap.size B k is_ → Calls Try.prog 9 #[.slice A n c, .slice B k d] w fun e w' => e = .returned (.int .i64 (movedS was is_ : Nat)) ∧ Low w w'
def ShTurneds : Prop := ∀ (A B C : Option Addr) (n c k d m q : Nat) (was is_ : List Int) (hs : List Nat) (w : World), n ≤ 200 → k ≤ 200 → m ≤ 50 → n ≤ c → k ≤ d → m ≤ q → Ns w w.heap.size A n was → Ns w w.heap.size B k is_ → Hs w w.heap.size C m hs → Calls Try.prog 11 #[.slice A n c, .slice B k d, .slice C m q] w fun e w' => e = .returned (.int .i64 (turnedS was is_ hs : Nat)) ∧ Low w w'
set_option maxHeartbeats 1600000 in
theorem shm_walk (HL_ : ∀ u, Calls Try.prog 6 #[] u fun e w' => e = .returned (.bool true) ∧ Low u w') (HM : ShMoveds) (HT : ShTurneds) (A B C : Option Addr) (n c k d m q : Nat) (was is_ : List Int) (hs : List Nat) (w : World)
    (hn : n ≤ 140737488355328) (hnc : n ≤ c) (hk : k ≤ 140737488355328) (hkd : k ≤ d) (hm : m ≤ 140737488355328) (hmq : m ≤ q) (ha : Ns w w.heap.size A n was) (hb : Ns w w.heap.size B k is_) (hc : Hs w w.heap.size C m hs) :
    Calls Try.prog 4 #[.slice A n c, .slice B k d, .slice C m q] w fun e w' => e = .returned (.bool true) ∧ Low w w' := by
  have HML := Lib.hid HL_
  have HA := Lib.hid ha
  have HB := Lib.hid hb
  have HC := Lib.hid hc
  have HMM := Lib.hid HM
  have HTT := Lib.hid HT
  clear HL_ HM HT ha hb hc
  have hcs : 200 < n ∨ (n ≤ 200 ∧ 200 < k) ∨ (n ≤ 200 ∧ k ≤ 200 ∧ 50 < m) ∨ (n ≤ 200 ∧ k ≤ 200 ∧ m ≤ 50) := by omega
  rcases hcs with h1 | ⟨h1, h2⟩ | ⟨h1, h2, h3⟩ | ⟨h1, h2, h3⟩
  · have g1 : (200 : Int) < n := by omega
    go_enter Try.func4, Try.ntmps4
    go_wp2_with fail
    refine (HML.out w).mono ?_
    rintro e w4 ⟨rfl, hl⟩
    go_wp2_with fail
    go_ret
    exact ⟨rfl, hl⟩
  · have g1 : ¬ (200 : Int) < n := by omega
    have g2 : (200 : Int) < k := by omega
    go_enter Try.func4, Try.ntmps4
    go_wp2_with fail
    refine (HML.out w).mono ?_
    rintro e w4 ⟨rfl, hl⟩
    go_wp2_with fail
    go_ret
    exact ⟨rfl, hl⟩
  · have g1 : ¬ (200 : Int) < n := by omega
    have g2 : ¬ (200 : Int) < k := by omega
    have g3 : (50 : Int) < m := by omega
    go_enter Try.func4, Try.ntmps4
    go_wp2_with fail
    refine (HML.out w).mono ?_
    rintro e w4 ⟨rfl, hl⟩
    go_wp2_with fail
    go_ret
    exact ⟨rfl, hl⟩
  · have g1 : ¬ (200 : Int) < n := by omega
    have g2 : ¬ (200 : Int) < k := by omega
    have g3 : ¬ (50 : Int) < m := by omega
    go_enter Try.func4, Try.ntmps4
    go_wp2_with fail
    refine (HMM.out A B n c k d was is_ w h1 h2 hnc hkd HA.out HB.out).mono ?_
    rintro e w2 ⟨rfl, hl⟩
    replace HA := Lib.hid (HA.out.below' hl hl.size)
    replace HB := Lib.hid (HB.out.below' hl hl.size)
    replace HC := Lib.hid (HC.out.below' hl hl.size)
    have hL := Lib.hid hl
    clear hl
    go_wp2_with fail
    refine (rmoved_any A B n c k d was is_ w2 (by omega) (by omega) HA.out HB.out).mono ?_
    rintro e w3 ⟨rfl, hl⟩
    replace HA := Lib.hid (HA.out.below' hl hl.size)
    replace HB := Lib.hid (HB.out.below' hl hl.size)
    replace HC := Lib.hid (HC.out.below' hl hl.size)
    replace hL := Lib.hid (hL.out.trans hl)
    clear hl
    generalize movedS was is_ = mv at *
    have hmm : ((mv : Int) == (mv : Int)) = true := by simp
    go_wp2_with fail
    refine (HTT.out A B C n c k d m q was is_ hs w3 h1 h2 h3 hnc hkd hmq HA.out HB.out HC.out).mono ?_
    rintro e w4 ⟨rfl, hl⟩
    replace HA := Lib.hid (HA.out.below' hl hl.size)
    replace HB := Lib.hid (HB.out.below' hl hl.size)
    replace HC := Lib.hid (HC.out.below' hl hl.size)
    replace hL := Lib.hid (hL.out.trans hl)
    clear hl
    go_wp2_with fail
    refine (rturned_any A B C n c k d m q was is_ hs w4 (by omega) (by omega) (by omega) HA.out HB.out HC.out).mono ?_
    rintro e w5 ⟨rfl, rfl⟩
    generalize turnedS was is_ hs = td at *
    have htt : ((td : Int) == (td : Int)) = true := by simp
    go_wp2_with fail
    refine (HML.out w4).mono ?_
    rintro e w6 ⟨rfl, hl⟩
    replace hL := Lib.hid (hL.out.trans hl)
    clear hl
    go_wp2_with fail
    go_ret
    exact ⟨rfl, hL.out⟩
end Go.Proofs.Ytjmpcmgnbamniaa
