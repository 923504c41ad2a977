/- What walk.Walk, and the document's own Walk, tell of any bytes, from any place and of any kind on. Condition: at most 2^47 bytes. -/
import Derived.Test.YtnfdfjjdgojeeaaWkC
namespace Go.Proofs.Ytnfdfjjdgojeeaa
open Go.RowKit
set_option linter.unusedVariables false

/-- the headers from a place on, or why there are none -/
def walkL (xs : List Int) (next at_ : Int) : List Pt × Int := if at_ < 0 ∨ (xs.length : Int) < at_ then ([], 2) else walkR xs 8 next at_.toNat
theorem walkL_len (xs : List Int) (next at_ : Int) : (walkL xs next at_).1.length ≤ 9 := by
  unfold walkL
  split
  · simp
  · exact walkR_len xs 8 next _
theorem walkL_err (xs : List Int) (next at_ : Int) : 0 ≤ (walkL xs next at_).2 ∧ (walkL xs next at_).2 ≤ 8 := by
  unfold walkL
  split
  · simp
  · exact walkR_err xs 8 next _

set_option maxHeartbeats 400000 in
theorem walk_any (A : Option Addr) (n c : Nat) (xs : List Int) (next at_ : Int) (w : World) (hn : n ≤ 140737488355328) (hb : Bs w w.heap.size A n xs) (hx : i64ok next) (ha : i64ok at_) :
    Calls Try.prog 6 #[.slice A n c, .int .i64 next, .int .i64 at_] w (GivesW w (walkL xs next at_)) := by
  by_cases h : at_ < 0 ∨ (n : Int) < at_
  · have HX := Lib.hid (show walkL xs next at_ = ([], 2) by unfold walkL; rw [hb.len, if_pos h])
    unfold i64ok at ha hx
    by_cases h0 : at_ < 0
    · clear h
      go_enter Try.func6, Try.ntmps6
      go_wp2_with fail
      go_step3
      go_wp2_with fail
      try rw [Exit.noGoto_ret]
      go_ret2
      exact GivesW.err 2 HX.out (Below.refl _ _)
    · have h1 : (n : Int) < at_ := by omega
      clear h
      go_enter Try.func6, Try.ntmps6
      go_wp2_with fail
      go_step3
      go_wp2_with fail
      try rw [Exit.noGoto_ret]
      go_ret2
      exact GivesW.err 2 HX.out (Below.refl _ _)
  · obtain ⟨a, rfl⟩ : ∃ a : Nat, at_ = a := ⟨at_.toNat, by omega⟩
    have e : walkL xs next a = walkR xs 8 next a := by unfold walkL; rw [hb.len, if_neg h]; rfl
    rw [e]
    exact walk_from A n c xs next a w hn hb hx (by omega)

theorem info_rpart : (Try.prog.info? 32).map (fun i => (i.zero, i.size, i.bytes)) = some (some zeroPV, 3, 24) := by kernel_rfl

section
variable (A : Option Addr) (n c : Nat) (xs : List Int)
set_option maxHeartbeats 400000 in
theorem rwalk_frag (f : Nat) (a m : Nat) (w : World) (ha : a ≤ n) : Calls Try.prog 7 #[.slice A n c, .int .i64 44, .int .i64 a, .int .i64 m] w (GivesW w (walkR xs f 44 a)) := by
  have HX := Lib.hid (walkR_frag xs f a)
  have hd0 : ¬ (a : Int) < 0 := by omega
  have hd1 : ¬ n < a := by omega
  go_enter Try.func7, Try.ntmps7
  go_wp2_with fail
  go_ret2
  exact GivesW.err 7 HX.out (Below.refl _ _)
set_option maxHeartbeats 400000 in
theorem rwalk_form (f : Nat) (a m : Nat) (w : World) (ha : a ≤ n) (hm : 0 < m) (hf : m + f = 8) : Calls Try.prog 7 #[.slice A n c, .int .i64 0, .int .i64 a, .int .i64 m] w (GivesW w (walkR xs f 0 a)) := by
  have HX := Lib.hid (walkR_form xs f a (by omega))
  have hd0 : ¬ (a : Int) < 0 := by omega
  have hd1 : ¬ n < a := by omega
  have hm1 : (0 : Int) < m := by omega
  go_enter Try.func7, Try.ntmps7
  go_wp2_with fail
  go_ret2
  exact GivesW.err 5 HX.out (Below.refl _ _)
set_option maxHeartbeats 800000 in
theorem rwalk_last (hn : n ≤ 140737488355328) (f : Nat) (next : Int) (a m : Nat) (w : World) (ha : a ≤ n) (hx : i64ok next) (hb : Bs w w.heap.size A n xs) (h1 : next ≠ 44) (h2 : next ≠ 0) (h3 : next ≠ 43) (h4 : next ≠ 60) : Calls Try.prog 7 #[.slice A n c, .int .i64 next, .int .i64 a, .int .i64 m] w (GivesW w (walkR xs f next a)) := by
  have HX := Lib.hid (walkR_last xs f next a h1 h2 h3 h4)
  have HL := Lib.hid hb.len
  have HXX := Lib.hid hx
  have hd0 : ¬ (a : Int) < 0 := by omega
  have hd1 : ¬ n < a := by omega
  have b44 : (next == 44) = false := by simpa using h1
  have b0 : (next == 0) = false := by simpa using h2
  have b43 : (next == 43) = false := by simpa using h3
  have b60 : (next == 60) = false := by simpa using h4
  have n0 : (next != 0) = true := by simpa using h2
  have n43 : (next != 43) = true := by simpa using h3
  have n60 : (next != 60) = true := by simpa using h4
  clear h1 h2 h3 h4 hx hb
  go_enter Try.func7, Try.ntmps7
  go_wp2_with fail
  go_ret2
  rw [HX.out, HL.out]
  exact ⟨_, _, rfl, Ps.one w _ ⟨next, a, (n : Int) - a⟩ ⟨HXX.out, by unfold i64ok; dsimp only; omega, by unfold i64ok; dsimp only; omega⟩ (by simp), Low.alloc _ _⟩
set_option maxHeartbeats 400000 in
theorem rwalk_many (next : Int) (a : Nat) (w : World) (ha : a ≤ n) (h : next = 43 ∨ next = 60) : Calls Try.prog 7 #[.slice A n c, .int .i64 next, .int .i64 a, .int .i64 8] w (GivesW w (walkR xs 0 next a)) := by
  have HX := Lib.hid (walkR_many xs next a h)
  have hd0 : ¬ (a : Int) < 0 := by omega
  have hd1 : ¬ n < a := by omega
  rcases h with rfl | rfl
  all_goals
    go_enter Try.func7, Try.ntmps7
    go_wp2_with fail
    go_ret2
    exact GivesW.err 8 HX.out (Below.refl _ _)
set_option maxHeartbeats 800000 in
theorem rwalk_short (hn : n ≤ 140737488355328) (f : Nat) (next : Int) (a m : Nat) (w : World) (ha : a ≤ n) (hb : Bs w w.heap.size A n xs) (hm : m + (f + 1) = 8) (h : (next = 0 ∧ f = 7) ∨ next = 43 ∨ next = 60) (hs : ¬ (a + 2 ≤ n ∧ a + hsz xs a ≤ n)) :
    Calls Try.prog 7 #[.slice A n c, .int .i64 next, .int .i64 a, .int .i64 m] w (GivesW w (walkR xs (f + 1) next a)) := by
  have HX := Lib.hid (walkR_short xs f next a h (by rw [hb.len]; exact hs))
  have hd0 : ¬ (a : Int) < 0 := by omega
  have hd1 : ¬ n < a := by omega
  have hm8 : m < 8 := by omega
  have hk : (next = 0 ∧ m = 0) ∨ next = 43 ∨ next = 60 := by omega
  clear h
  by_cases h2 : a + 2 ≤ n
  · obtain ⟨b, o, rfl, hlt, hc⟩ := hb.mem (by omega)
    have c1 := hc (a + 1) (by omega)
    have v1 := hb.nonneg (a + 1)
    unfold hsz at hs
    generalize xs.getD (a + 1) 0 = x at *
    obtain ⟨y, rfl⟩ : ∃ y : Nat, x = y := ⟨x.toNat, by omega⟩
    rw [Int.toNat_natCast] at hs
    have hy : y < 256 := by omega
    have h3 : ¬ ((n : Int) - 2 < a) := by omega
    have h4 : (n : Int) - a < 8 * (y : Int) + 8 := by omega
    clear hc hs hb hm
    rcases hk with ⟨rfl, rfl⟩ | rfl | rfl
    all_goals
      go_enter Try.func7, Try.ntmps7
      go_wp2_with fail
      go_ret2
      exact GivesW.err 3 HX.out (Below.refl _ _)
  · have h3 : (n : Int) - 2 < a := by omega
    clear hs hb hm
    rcases hk with ⟨rfl, rfl⟩ | rfl | rfl
    all_goals
      go_enter Try.func7, Try.ntmps7
      go_wp2_with fail
      go_ret2
      exact GivesW.err 3 HX.out (Below.refl _ _)

set_option maxHeartbeats 1600000 in
theorem rwalk_in (hn : n ≤ 140737488355328) : ∀ (f : Nat) (next : Int) (a m : Nat) (ai mi : Int) (w : World), ai = a → mi = m → m + f = 8 → a ≤ n → i64ok next → Bs w w.heap.size A n xs →
    Calls Try.prog 7 #[.slice A n c, .int .i64 next, .int .i64 ai, .int .i64 mi] w (GivesW w (walkR xs f next a)) := by
  intro f
  induction f with
  | zero =>
    rintro next a m ai mi w rfl rfl hm ha hx hb
    by_cases h1 : next = 44
    · subst h1; exact rwalk_frag A n c xs 0 a m w ha
    · by_cases h2 : next = 0
      · subst h2; exact rwalk_form A n c xs 0 a m w ha (by omega) hm
      · by_cases h3 : next = 43 ∨ next = 60
        · obtain rfl : m = 8 := by omega
          exact rwalk_many A n c xs next a w ha h3
        · exact rwalk_last A n c xs hn 0 next a m w ha hx hb h1 h2 (by omega) (by omega)
  | succ f ih =>
    rintro next a m ai mi w rfl rfl hm ha hx hb
    by_cases h1 : next = 44
    · subst h1; exact rwalk_frag A n c xs (f + 1) a m w ha
    · by_cases h2 : next = 0 ∧ 0 < m
      · obtain ⟨rfl, h2⟩ := h2; exact rwalk_form A n c xs (f + 1) a m w ha h2 hm
      · by_cases h3 : next ≠ 0 ∧ next ≠ 43 ∧ next ≠ 60
        · exact rwalk_last A n c xs hn (f + 1) next a m w ha hx hb h1 h3.1 h3.2.1 h3.2.2
        · have hk : (next = 0 ∧ m = 0) ∨ next = 43 ∨ next = 60 := by omega
          have hk2 : (next = 0 ∧ f = 7) ∨ next = 43 ∨ next = 60 := by omega
          by_cases hs : a + 2 ≤ n ∧ a + hsz xs a ≤ n
          · have HM := Lib.hid (walkR_more xs f next a hk2 (by rw [hb.len]; exact hs))
            have HXX := Lib.hid hx
            have HBB := Lib.hid hb
            have HL := Lib.hid (walkR_len xs f (xs.getD a 0) (a + hsz xs a))
            obtain ⟨b, o, rfl, hlt, hc⟩ := hb.mem (by omega)
            have c0 := hc a (by omega)
            have v0 := hb.nonneg a
            have c1 := hc (a + 1) (by omega)
            have v1 := hb.nonneg (a + 1)
            obtain ⟨z, hz⟩ : ∃ z, z = hsz xs a := ⟨_, rfl⟩
            rw [← hz] at HM HL hs
            unfold hsz at hz
            generalize xs.getD a 0 = x0 at *
            generalize xs.getD (a + 1) 0 = x at *
            obtain ⟨y, rfl⟩ : ∃ y : Nat, x = y := ⟨x.toNat, by omega⟩
            rw [Int.toNat_natCast] at hz
            have HZ := Lib.hid hz
            have hy : y < 256 := by omega
            have h4 : ¬ ((n : Int) - 2 < a) := by omega
            have h5 : ¬ ((n : Int) - a < 8 * (y : Int) + 8) := by omega
            have hd0 : ¬ (a : Int) < 0 := by omega
            have hd1 : ¬ n < a := by omega
            have hm8 : m < 8 := by omega
            have hzn := hs.2
            clear hc hz hb hx h1 h2 h3 hk2 hs
            have HIH : Hid (∀ w1, Bs w1 w1.heap.size (some ⟨b, o, none⟩) n xs → Calls Try.prog 7 #[.slice (some ⟨b, o, none⟩) n c, .int .i64 x0, .int .i64 ((a : Int) + (8 * (y : Int) + 8)), .int .i64 ((m : Int) + 1)] w1 (GivesW w1 (walkR xs f x0 (a + z)))) :=
              Lib.hid fun w1 hb1 => ih x0 (a + z) (m + 1) _ _ w1 (by have := HZ.out; omega) (by omega) (by omega) (by omega) (by unfold i64ok; omega) hb1
            clear ih
            obtain ⟨i0, hi, hz0, hz1, hz2⟩ := info_parts info_rpart
            have HI := Lib.hid hi
            have HZ0 := Lib.hid hz0
            have HZ1 := Lib.hid hz1
            have HZ2 := Lib.hid hz2
            clear hi hz0 hz1 hz2
            generalize walkR xs f x0 (a + z) = r at *
            obtain ⟨rs, er⟩ := r
            by_cases he : er = 0
            · subst he
              have HJ : Hid (walkR xs (f + 1) next a = (⟨next, a, 8 * (y : Int) + 8⟩ :: rs, 0)) := Lib.hid (by rw [HM.out, show (8 * (y : Int) + 8) = (z : Nat) by have := HZ.out; omega]; rfl)
              have HO : Hid (∀ w1 : World, w.heap.size ≤ w1.heap.size → OwnP 32 (w1.alloc (.cells #[.int .i64 next, .int .i64 a, .int .i64 (8 * (y : Int) + 8)] 32)) w.heap.size (some ⟨w1.heap.size, 0, none⟩) 1 1 [⟨next, a, 8 * (y : Int) + 8⟩] ∧ Low w1 (w1.alloc (.cells #[.int .i64 next, .int .i64 a, .int .i64 (8 * (y : Int) + 8)] 32))) :=
                Lib.hid fun w1 h => ⟨OwnP.one w1 _ ⟨next, a, 8 * (y : Int) + 8⟩ ⟨HXX.out, by unfold i64ok; dsimp only; omega, by unfold i64ok; dsimp only; omega⟩ h, Low.alloc _ _⟩
              obtain ⟨q, hq⟩ : ∃ q, q = rs.length := ⟨_, rfl⟩
              have hq9 : q ≤ 9 := by have := HL.out; dsimp only at this; omega
              have HQ := Lib.hid hq
              clear hq HL HM HXX
              rcases hk with ⟨rfl, rfl⟩ | rfl | rfl
              all_goals
                go_enter Try.func7, Try.ntmps7
                go_wp2_with fail
                refine (HIH.out w HBB.out).mono ?_
                rintro e w1 ⟨A1, cc, rfl, hp, hB⟩
                dsimp only at hp ⊢
                rw [← HQ.out] at hp ⊢
                obtain ⟨hO1, hl1⟩ := HO.out w1 hB.size
                clear HIH HBB c0 c1 HO
                have hp3 := hp.below' hl1 hl1.size
                have hB3 := hB.trans (hl1.mono hB.size)
                clear hp hB hl1
                go_wp2_with (at_builtin; refine wpList_append_ps rfl (.tmp 99) (.tmp 100) _ rfl w.heap.size 32 i0 Try.underlying27 HI.out HZ0.out HZ1.out HZ2.out _ 1 1 _ rfl hO1 A1 q cc _ rs rfl hp3 (by omega) hB3.size ?_; intro A4 c4 w4 hO4 hg4 hb4)
                go_ret2
                have hB4 : Below w.heap.size w w4 := hB3.grown hg4 hB3.size (fun k hk => (hO1.lt k hk).1)
                rw [HJ.out]
                have hlen := hO4.len
                refine ⟨A4, c4, ?_, ?_, hB4⟩
                · dsimp only
                  rw [show ((⟨_, a, 8 * (y : Int) + 8⟩ : Pt) :: rs).length = 1 + q from hlen]
                  rfl
                · dsimp only
                  rw [show ((⟨_, a, 8 * (y : Int) + 8⟩ : Pt) :: rs).length = 1 + q from hlen]
                  exact hO4.lies (Nat.le_refl _)
            · have HJ : Hid (walkR xs (f + 1) next a = ([], er)) := Lib.hid (by rw [HM.out]; unfold joinPs; rw [if_neg he])
              have hnb : (er != 0) = true := by simpa using he
              clear HM he
              rcases hk with ⟨rfl, rfl⟩ | rfl | rfl
              all_goals
                go_enter Try.func7, Try.ntmps7
                go_wp2_with fail
                refine (HIH.out w HBB.out).mono ?_
                rintro e w1 ⟨A1, cc, rfl, hp, hB⟩
                dsimp only at hp ⊢
                clear HIH HBB c0 c1
                go_wp2_with fail
                go_ret2
                exact GivesW.err er HJ.out hB
          · exact rwalk_short A n c xs hn f next a m w ha hb hm hk2 hs
end
end Go.Proofs.Ytnfdfjjdgojeeaa
