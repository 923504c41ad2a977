/- What the laws' own small test of headers answers: true. No condition. -/
import Derived.Test.YtnfdfjjdgojeeaaWkE
namespace Go.Proofs.Ytnfdfjjdgojeeaa
open Go.RowKit
set_option linter.unusedVariables false

/-- parts are compared -/
def eqP (a b : Pt) : Bool := a.k == b.k && a.a == b.a && a.l == b.l
theorem eqP_refl (a : Pt) : eqP a a = true := by simp [eqP]
theorem eq_part (a b : Pt) (w : World) : (Op.equalIn 10000 31 (.agg #[.int .i64 a.k, .int .i64 a.a, .int .i64 a.l]) (.agg #[.int .i64 b.k, .int .i64 b.a, .int .i64 b.l])).run Try.prog w = .ok (eqP a b) w := by
  obtain ⟨a1, a2, a3⟩ := a
  obtain ⟨b1, b2, b3⟩ := b
  rw [run_equalIn_struct w 9999 31 _ _ (by simp only [Program.fieldsOf, Try.underlying31]) (by kernel_rfl)]
  simp only [Program.fieldsOf, Try.underlying31]
  have hp : ∀ (k : Nat) (cs : Array Value) (v : Value), cs[k]? = some v → (part 3 cs k).run Try.prog w = .ok v w := fun k cs v h => by simp [part, isAgg, run_underlying Try.underlying3, h]
  have he : ∀ x y : Int, (Op.equalIn 9999 3 (.int .i64 x) (.int .i64 y)).run Try.prog w = .ok (x == y) w := fun x y => run_equalIn_int w 9998 _ _ _ x y Try.underlying3
  rw [eqFields_step (by simp) (hp 0 _ (.int .i64 a1) rfl) (hp 0 _ (.int .i64 b1) rfl) (he a1 b1),
    eqFields_step (by simp) (hp 1 _ (.int .i64 a2) rfl) (hp 1 _ (.int .i64 b2) rfl) (he a2 b2),
    eqFields_step (by simp) (hp 2 _ (.int .i64 a3) rfl) (hp 2 _ (.int .i64 b3) rfl) (he a3 b3)]
  simp only [Op.eqFields, Sem.run_pure, eqP]
  generalize (a1 == b1) = x1
  generalize (a2 == b2) = x2
  generalize (a3 == b3) = x3
  cases x1 <;> cases x2 <;> cases x3 <;> rfl

def exB : List Int := [6, 0, 0, 0, 0, 0, 0, 0, 1, 2, 3]
theorem exB_walk : walkL exB 43 0 = ([⟨43, 0, 8⟩, ⟨6, 8, 3⟩], 0) := by rfl
theorem exB_all : AllB exB := fun x hx => by
  simp [exB] at hx
  omega

set_option maxHeartbeats 800000 in
theorem wklives_any (w : World) : Calls Try.prog 8 #[] w fun e w' => e = .returned (.bool true) ∧ Below w.heap.size w w' := by
  go_enter Try.func8, Try.ntmps8
  go_wp2_with fail
  have hk1 : Blk (w.alloc (.cells #[.int .u8 6, .int .u8 0, .int .u8 0, .int .u8 0, .int .u8 0, .int .u8 0, .int .u8 0, .int .u8 0, .int .u8 1, .int .u8 2, .int .u8 3] 5)) 5 w.heap.size exB := Blk.new w 5 exB
  have hB1 := Low.alloc w (.cells #[.int .u8 6, .int .u8 0, .int .u8 0, .int .u8 0, .int .u8 0, .int .u8 0, .int .u8 0, .int .u8 0, .int .u8 1, .int .u8 2, .int .u8 3] 5)
  refine (walk_any (some ⟨w.heap.size, 0, none⟩) 11 11 exB 43 0 _ (by omega) (hk1.bs exB_all hk1.lt rfl) (by unfold i64ok; omega) (by unfold i64ok; omega)).mono ?_
  rintro e w1 ⟨A1, c1, rfl, hp, hl1⟩
  rw [exB_walk] at hp ⊢
  dsimp only [List.length_cons, List.length_nil] at hp ⊢
  replace hB1 := Low.trans hB1 hl1
  clear hl1 hk1
  go_wp2_with fail
  refine (walk_any none 0 0 [] 44 0 w1 (by omega) (Bs.nil _ _ _) (by unfold i64ok; omega) (by unfold i64ok; omega)).mono ?_
  rintro e w2 ⟨A2, c2, rfl, -, hl2⟩
  have e2 : walkL [] 44 0 = ([], 7) := rfl
  rw [e2]
  dsimp only [List.length_cons, List.length_nil]
  replace hp := hp.below' hl2 hl2.size
  replace hB1 := hB1.trans hl2
  clear hl2 e2
  have HP := Lib.hid hp
  obtain ⟨b, o, rfl, hbl, hc⟩ := hp.mem (by omega)
  obtain ⟨q1, q2, q3⟩ := hc 1 (by omega)
  replace q1 : w2.cell? ⟨b, o + 3, none⟩ = some (.int .i64 6) := q1
  replace q2 : w2.cell? ⟨b, o + 4, none⟩ = some (.int .i64 8) := q2
  replace q3 : w2.cell? ⟨b, o + 5, none⟩ = some (.int .i64 3) := q3
  clear hc hp
  have heq := fun u => eq_part ⟨6, 8, 3⟩ ⟨6, 8, 3⟩ u
  rw [eqP_refl] at heq
  go_wp2_with fail
  refine (find_any (some ⟨b, o, none⟩) 2 c1 _ 6 w2 (by omega) HP.out).mono ?_
  rintro e w3 ⟨⟨v, rfl, hv⟩, hl3⟩
  have hv1 : IsFirst [⟨43, 0, 8⟩, ⟨6, 8, 3⟩] 6 0 ((1 : Nat) : Int) := IsFirst.back (IsFirst.here (by simp) rfl) (by show (43 : Int) ≠ 6; omega)
  obtain rfl := hv.one hv1
  replace hB1 := hB1.trans hl3
  clear hv hv1 HP hl3 q1 q2 q3 heq
  go_wp2_with fail
  go_ret
  exact ⟨rfl, hB1⟩
end Go.Proofs.Ytnfdfjjdgojeeaa
