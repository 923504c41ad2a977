/- harrierlaw05.WalkWhole: the walk. Condition: at most 2^47 bytes. -/
import Derived.Test.YtnfdfjjdgojeeaaWkF
namespace Go.Proofs.Ytnfdfjjdgojeeaa
open Go.RowKit
set_option linter.unusedVariables false

section
variable (xs : List Int)
theorem walkR_some (f : Nat) (nx : Int) (a : Nat) (h : (walkR xs f nx a).2 = 0) : (walkR xs f nx a).1 ≠ [] := by
  revert h
  cases f with
  | zero => unfold walkR; (repeat' split) <;> simp
  | succ f => unfold walkR; (repeat' split) <;> simp_all
theorem walkR_inv (f : Nat) (nx : Int) (a : Nat) (p : Pt) (rest : List Pt) (h : walkR xs f nx a = (p :: rest, 0)) :
    (rest = [] ∧ p = ⟨nx, a, (xs.length : Int) - a⟩ ∧ nx ≠ 0 ∧ nx ≠ 43 ∧ nx ≠ 60) ∨
    (∃ f', (nx = 0 ∨ nx = 43 ∨ nx = 60) ∧ p = ⟨nx, a, (hsz xs a : Nat)⟩ ∧ a + 2 ≤ xs.length ∧ a + hsz xs a ≤ xs.length ∧ rest ≠ [] ∧ walkR xs f' (xs.getD a 0) (a + hsz xs a) = (rest, 0)) := by
  by_cases h1 : nx = 44
  · rw [h1, walkR_frag] at h; simp at h
  · by_cases h2 : nx ≠ 0 ∧ nx ≠ 43 ∧ nx ≠ 60
    · rw [walkR_last xs f nx a h1 h2.1 h2.2.1 h2.2.2] at h
      simp only [Prod.mk.injEq, List.cons.injEq, and_true] at h
      exact .inl ⟨h.2.symm, h.1.symm, h2⟩
    · have hk : nx = 0 ∨ nx = 43 ∨ nx = 60 := by omega
      cases f with
      | zero =>
        by_cases h3 : nx = 0
        · rw [h3, walkR_form xs 0 a (by omega)] at h; simp at h
        · rw [walkR_many xs nx a (by omega)] at h; simp at h
      | succ f =>
        by_cases h3 : nx = 0 ∧ f ≠ 7
        · rw [h3.1, walkR_form xs (f + 1) a (by omega)] at h; simp at h
        · by_cases h4 : a + 2 ≤ xs.length ∧ a + hsz xs a ≤ xs.length
          · rw [walkR_more xs f nx a (by omega) h4] at h
            have hs := walkR_some xs f (xs.getD a 0) (a + hsz xs a)
            obtain ⟨r, hr⟩ : ∃ r, r = walkR xs f (xs.getD a 0) (a + hsz xs a) := ⟨_, rfl⟩
            rw [← hr] at h hs
            obtain ⟨l, e⟩ := r
            unfold joinPs at h
            by_cases he : e = 0
            · subst he
              simp only [if_true, Prod.mk.injEq, and_true, List.cons_append, List.nil_append, List.cons.injEq] at h
              exact .inr ⟨f, hk, h.1.symm, h4.1, h4.2, by rw [← h.2]; exact hs rfl, by rw [← hr, h.2]⟩
            · simp only [if_neg he, Prod.mk.injEq] at h
              exact absurd h.2 he
          · rw [walkR_short xs f nx a (by omega) h4] at h; simp at h
end
theorem walkL_ok (xs : List Int) (next at_ : Int) (h : (walkL xs next at_).2 = 0) : ∃ a : Nat, at_ = a ∧ a ≤ xs.length ∧ walkL xs next at_ = walkR xs 8 next a ∧ (walkL xs next at_).1 ≠ [] := by
  unfold walkL at h ⊢
  by_cases hc : at_ < 0 ∨ (xs.length : Int) < at_
  · rw [if_pos hc] at h; simp at h
  · rw [if_neg hc] at h ⊢
    exact ⟨at_.toNat, by omega, by omega, rfl, walkR_some xs 8 next _ h⟩
theorem walkL_no (xs : List Int) (next at_ : Int) (h : (walkL xs next at_).2 ≠ 0) : (walkL xs next at_).1 = [] := by
  unfold walkL at h ⊢
  split
  · rfl
  · rename_i hc
    rw [if_neg hc] at h
    rcases walkR_or xs 8 next at_.toNat with h1 | h1
    · exact absurd h1 h
    · exact h1
theorem drop_pt (ps : List Pt) (k : Nat) (h : k < ps.length) : ps.drop k = ps.getD k zeroP :: ps.drop (k + 1) := by
  rw [List.drop_eq_getElem_cons h]
  simp [List.getD, h]

/-- where the law's loop stands -/
def WhRel (w2 : World) (n q : Nat) (xs : List Int) (ps : List Pt) (v1 v2 v9 : Value) (wr : World) : Prop :=
  ∃ (nx : Int) (a m : Nat), v1 = .int .i64 nx ∧ v2 = .int .i64 a ∧ v9 = .int .i64 m ∧ m ≤ q ∧ a ≤ n ∧ Hid ((∃ f, walkR xs f nx a = (ps.drop m, 0)) ∨ (m = q ∧ a = n)) ∧ Low w2 wr

set_option maxHeartbeats 1600000 in
set_option maxRecDepth 100000 in
theorem wkw_walk (A : Option Addr) (n c : Nat) (xs : List Int) (next at_ : Int) (w : World) (hn : n ≤ 140737488355328) (hb : Bs w w.heap.size A n xs) (hx : i64ok next) (ha : i64ok at_) :
    Calls Try.prog 5 #[.slice A n c, .int .i64 next, .int .i64 at_] w fun e w' => e = .returned (.bool true) ∧ Below w.heap.size w w' := by
  have HX := Lib.hid hx
  have HA := Lib.hid ha
  have HQ := Lib.hid (walkL_len xs next at_)
  have HO := Lib.hid (walkL_ok xs next at_)
  have HU := Lib.hid (walkL_no xs next at_)
  have HL := Lib.hid hb.len
  clear hx ha
  go_enter Try.func5, Try.ntmps5
  go_wp2_with fail
  refine (walk_any A n c xs next at_ w hn hb HX.out HA.out).mono ?_
  rintro e w1 ⟨A1, c1, rfl, hp, hl1⟩
  replace hb := hb.below' hl1 hl1.size
  clear HX HA
  generalize walkL xs next at_ = r at *
  obtain ⟨ps, er⟩ := r
  dsimp only at hp HQ HO HU ⊢
  by_cases he : er = 0
  · subst he
    obtain ⟨a0, ha0, hle0, hr0, hne0⟩ := HO.out rfl
    have hx0 : True := trivial
    subst ha0
    rw [HL.out] at hle0
    have HR := Lib.hid hr0
    have HNE := Lib.hid (show 0 < ps.length from List.length_pos_iff.2 hne0)
    obtain ⟨q, hq⟩ : ∃ q, q = ps.length := ⟨_, rfl⟩
    rw [← hq] at hp HQ HNE ⊢
    have HPL := Lib.hid hq
    have hq9 : q ≤ 9 := HQ.out
    have hq0 : 0 < q := HNE.out
    clear hr0 hne0 hq HO HU HQ HNE hx0
    go_wp2_with fail
    go_loopw [1, 2, 9] (fun v1 v2 v9 wr => WhRel w1 n q xs ps v1 v2 v9 wr) (fun _ _ i _ => q - (intOf i).toNat)
    case atStart => exact ⟨next, a0, 0, rfl, rfl, rfl, Nat.zero_le _, hle0, Lib.hid (.inl ⟨8, HR.out.symm⟩), Low.refl _⟩
    case round =>
      clear HR hle0
      obtain ⟨nx, a, m, rfl, rfl, rfl, hm, han, HE, hB⟩ := hrel
      by_cases hmq : m < q
      · obtain ⟨b1, o1, rfl, hb1, hc1⟩ := hp.mem (by omega)
        obtain ⟨q1, q2, q3⟩ := hc1 m hmq
        have x1 := (Below.cell hB (p := ⟨b1, o1 + m * 3, none⟩) hb1).trans q1
        have x2 := (Below.cell hB (p := ⟨b1, o1 + m * 3 + 1, none⟩) hb1).trans q2
        have x3 := (Below.cell hB (p := ⟨b1, o1 + m * 3 + 2, none⟩) hb1).trans q3
        have hD : ∃ f, walkR xs f nx a = (ps.getD m zeroP :: ps.drop (m + 1), 0) := by
          rcases HE.out with ⟨f, hf⟩ | h
          · exact ⟨f, by rw [hf, drop_pt ps m (by rw [← HPL.out]; exact hmq)]⟩
          · omega
        obtain ⟨f, hf⟩ := hD
        have hI := walkR_inv xs f nx a _ _ hf
        rw [HL.out] at hI
        generalize ps.getD m zeroP = p at *
        clear q1 q2 q3 hc1 hp HE hf
        rcases hI with ⟨hr, rfl, h0, h43, h60⟩ | ⟨f', hk, rfl, h2, hz, hr, hw⟩
        · have hmq1 : m + 1 = q := by
            have := List.drop_eq_nil_iff.1 hr
            rw [← HPL.out] at this
            omega
          have HMQ := Lib.hid hmq1
          have hlt1 : decide ((m : Int) < (q : Int) - 1) = false := by simp; omega
          have b0 : (nx == 0) = false := by simpa using h0
          have b43 : (nx == 43) = false := by simpa using h43
          have b60 : (nx == 60) = false := by simpa using h60
          have hm1 : (m : Int) < q := by omega
          have hln : ¬ ((n : Int) - a < 0) := by omega
          have hlB := Low.trans hB (Low.alloc wr (.cells #[.int .i64 nx, .int .i64 a, .int .i64 ((n : Int) - a)] 31))
          clear h0 h43 h60 hr hmq1 hB
          dsimp only at x1 x2 x3
          go_wp2_with fail
          exact ⟨⟨nx, n, m + 1, rfl, by go_num, by go_num, by omega, Nat.le_refl _, Lib.hid (.inr ⟨HMQ.out, rfl⟩), hlB⟩, by simp [intOf]; omega⟩
        · have hmq1 : m + 1 < q := by
            have : ¬ ps.length ≤ m + 1 := fun h => hr (List.drop_eq_nil_of_le h)
            rw [← HPL.out] at this
            omega
          have hlt1 : decide ((m : Int) < (q : Int) - 1) = true := by simp; omega
          have hm1 : (m : Int) < q := by omega
          have HW := Lib.hid hw
          obtain ⟨b, o, rfl, hlt, hc⟩ := hb.mem (by omega)
          have cA := hc a (by omega)
          have vA := hb.nonneg a
          generalize xs.getD a 0 = x at *
          obtain ⟨z, hzz⟩ : ∃ z, z = hsz xs a := ⟨_, rfl⟩
          rw [← hzz] at hz HW x3
          have hl2 := Low.alloc wr (.cells #[.int .i64 nx, .int .i64 a, .int .i64 (z : Int)] 31)
          have hlB := Low.trans hB hl2
          have cA2 := (Below.cell hlB (p := ⟨b, o + a, none⟩) hlt).trans cA
          clear hr hw hzz hc hB hl2 cA
          dsimp only at x1 x2 x3
          rcases hk with rfl | rfl | rfl
          all_goals
            go_wp2_with fail
            exact ⟨⟨x, a + z, m + 1, rfl, by go_num, by go_num, by omega, hz, Lib.hid (.inl ⟨f', HW.out⟩), hlB⟩, by simp [intOf]; omega⟩
      · obtain rfl : m = q := by omega
        have hend : a = n := by
          rcases HE.out with ⟨f, hf⟩ | h
          · have := walkR_some xs f nx a (by rw [hf])
            rw [hf] at this
            exact absurd (List.drop_eq_nil_of_le (by rw [HPL.out]; exact Nat.le_refl _)) this
          · exact h.2
        subst hend
        have hq1 : (0 : Int) < m := by omega
        go_wp2_with fail
        refine (wklives_any wr).mono ?_
        rintro e w3 ⟨rfl, hl3⟩
        go_wp2_with fail
        go_ret
        exact ⟨rfl, Low.trans hl1 (Low.trans hB hl3)⟩
  · have hps : ps = [] := HU.out he
    subst hps
    have hnb : (er != 0) = true := by simpa using he
    rw [List.length_nil]
    clear HO HU he
    go_wp2_with fail
    refine (wklives_any w1).mono ?_
    rintro e w3 ⟨rfl, hl3⟩
    go_wp2_with fail
    go_ret
    exact ⟨rfl, Low.trans hl1 hl3⟩
end Go.Proofs.Ytnfdfjjdgojeeaa
