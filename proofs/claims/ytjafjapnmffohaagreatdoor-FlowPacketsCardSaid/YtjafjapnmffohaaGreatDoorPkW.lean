/- What walk.Walk tells of any bytes, with how much room its slice has. Condition: at most 2^47 bytes. -/
import Derived.Test.YtjafjapnmffohaaGreatDoorJWk
set_option maxRecDepth 100000
namespace Go.Proofs.YtjafjapnmffohaaGreatDoor
open Go.RowKit
set_option linter.unusedVariables false

/-- headers and a number handed back; the room -/
def GivesWC (w : World) (r : List Pt × Int) (e : Ending) (w' : World) : Prop :=
  ∃ A c, e = .returned (.tuple #[.slice A r.1.length c, .int .i64 r.2]) ∧ Ps w' w'.heap.size A r.1.length r.1 ∧ (r.1.length ≤ c ∧ c ≤ 9223372036854775807) ∧ (0 < r.1.length → ∃ b o, A = some ⟨b, o, none⟩ ∧ w.heap.size ≤ b) ∧ Below w.heap.size w w'
theorem GivesWC.err {w w' : World} {r : List Pt × Int} (k : Int) (h : r = ([], k)) (hB : Below w.heap.size w w') : GivesWC w r (.returned (.tuple #[.slice none 0 0, .int .i64 k])) w' := by
  subst h
  exact ⟨none, 0, rfl, Ps.nil _ _ _, ⟨Nat.le_refl _, by omega⟩, fun h => absurd h (by show ¬ 0 < 0; omega), hB⟩
theorem OwnP.capP {t : TypeId} {w : World} {base n c : Nat} {A : Option Addr} {ps : List Pt} (h : OwnP t w base A n c ps) : n ≤ c ∧ c ≤ maxLen := by
  rcases h.1.2 with ⟨e, hn⟩ | ⟨g, cap, cur, e, _, _, h1, h2, _⟩
  · injection e with _ _ e3
    subst e3 hn
    exact ⟨Nat.le_refl _, Nat.zero_le _⟩
  · injection e with _ _ e3
    subst e3
    exact ⟨h1, h2⟩

theorem OwnP.fromP {t : TypeId} {w : World} {base n c : Nat} {A : Option Addr} {ps : List Pt} (h : OwnP t w base A n c ps) : 0 < n → ∃ b o, A = some ⟨b, o, none⟩ ∧ base ≤ b := fun hn => by
  obtain ⟨g, cap, hv, hb, hlt⟩ := h.1.form hn
  have hA : A = some ⟨g, 0, none⟩ := by injection hv
  exact ⟨g, 0, hA, hb⟩

set_option maxHeartbeats 1600000 in
theorem walk_fromC (A : Option Addr) (n c : Nat) (xs : List Int) (nx0 : Int) (a0 : Nat) (w : World) (hn : n ≤ 140737488355328) (hb : Bs w w.heap.size A n xs) (hx0 : i64ok nx0) (ha0 : a0 ≤ n) :
    Calls Tryz.prog 27 #[.slice A n c, .int .i64 nx0, .int .i64 a0] w (GivesWC w (walkR xs 8 nx0 a0)) := by
  obtain ⟨i0, hi, hz0, hz1, hz2⟩ := info_parts info_part
  have HI := Lib.hid hi
  have HZ0 := Lib.hid hz0
  have HZ1 := Lib.hid hz1
  have HZ2 := Lib.hid hz2
  clear hi hz0 hz1 hz2
  have hR0 := joinPs_nil _ (walkR_or xs 8 nx0 a0)
  obtain ⟨R, hR⟩ : ∃ R, R = walkR xs 8 nx0 a0 := ⟨_, rfl⟩
  rw [← hR] at hR0 ⊢
  have HR0 := Lib.hid (hR.symm ▸ hR0.symm : R = joinPs [] (walkR xs 8 nx0 a0))
  have hx := hx0
  unfold i64ok at hx
  clear hR hR0
  have hd0 : decide ((a0 : Int) < 0) = false := by simp
  have hd1 : decide (n < a0) = false := by simpa using ha0
  go_enter Tryz.func27, Tryz.ntmps27
  go_wp2_with fail
  go_step3
  go_wp2_with fail
  go_step3
  go_wp2_with fail
  go_loopw [1, 2, 8] (fun v1 v2 v8 wr => WkRel w n xs R v1 v2 v8 wr) (fun _ v2 _ _ => n - (intOf v2).toNat)
  case atStart => exact ⟨nx0, a0, 0, 8, none, 0, [], rfl, rfl, rfl, ha0, rfl, hx0, OwnP.none_ _ _ _, HR0.out, Below.refl _ _⟩
  case round =>
    clear hx HR0
    obtain ⟨nx, a, q, f, A1, c1, ps, rfl, rfl, rfl, ha, hqf, hnx, hO, hR, hB⟩ := hrel
    have HR := Lib.hid hR
    clear hR
    by_cases h44 : nx = 44
    · subst h44
      have HX := Lib.hid (show R = ([], 7) by rw [HR.out, walkR_frag]; rfl)
      clear HR hO hnx
      go_wp2_with fail
      try rw [Exit.noGoto_ret]
      go_ret2
      exact GivesWC.err 7 HX.out hB
    · by_cases hlast : nx ≠ 0 ∧ nx ≠ 43 ∧ nx ≠ 60
      · obtain ⟨h0, h43, h60⟩ := hlast
        have HX := Lib.hid (show R = (ps ++ [⟨nx, a, (n : Int) - a⟩], 0) by rw [HR.out, walkR_last xs f nx a h44 h0 h43 h60, hb.len]; rfl)
        clear HR
        have b44 : (nx == 44) = false := by simpa using h44
        have b0 : (nx == 0) = false := by simpa using h0
        have b43 : (nx == 43) = false := by simpa using h43
        have b60 : (nx == 60) = false := by simpa using h60
        clear h44 h0 h43 h60
        have hlB := Low.alloc wr (.cells #[.int .i64 nx, .int .i64 a, .int .i64 ((n : Int) - a)] 55)
        have hB3 := hB.trans (hlB.mono hB.size)
        have hO3 := hO.below hlB
        have hs3 := Ps.one wr 55 ⟨nx, a, (n : Int) - a⟩ ⟨hnx, by unfold i64ok; dsimp only; omega, by unfold i64ok; dsimp only; omega⟩ (B := wr.heap.size + 1) (by omega)
        clear hO hB hlB hnx
        go_wp2_with (at_builtin; refine wpList_append_ps rfl (.tmp 56) (.tmp 64) _ rfl w.heap.size 55 i0 Tryz.underlying51 HI.out HZ0.out HZ1.out HZ2.out _ q c1 ps rfl hO3 _ 1 _ _ [⟨nx, a, (n : Int) - a⟩] rfl hs3 (by omega) hB3.size ?_; intro A4 c4 w4 hO4 hg4 hb4)
        try rw [Exit.noGoto_ret]
        go_ret2
        have hB4 : Below w.heap.size w w4 := hB3.grown hg4 hB3.size (fun k hk => (hO3.lt k hk).1)
        rw [HX.out]
        have hcP := hO4.capP
        refine ⟨A4, c4, ?_, ?_, ?_, ?_, hB4⟩
        · simp only [hO4.len]; rfl
        · simp only [hO4.len]; exact hO4.lies (Nat.le_refl _)
        · simp only [hO4.len]; exact ⟨hcP.1, by have := hcP.2; simp only [maxLen] at this; omega⟩
        · simp only [hO4.len]; exact hO4.fromP
      · by_cases h5 : nx = 0 ∧ q ≠ 0
        · obtain ⟨rfl, hq⟩ := h5
          have HX := Lib.hid (show R = ([], 5) by rw [HR.out, walkR_form xs f a (by omega)]; rfl)
          clear HR hO hnx hlast
          have hq0 : (0 : Int) < q := by omega
          go_wp2_with fail
          try rw [Exit.noGoto_ret]
          go_ret2
          exact GivesWC.err 5 HX.out hB
        · by_cases h8 : (nx = 43 ∨ nx = 60) ∧ q = 8
          · obtain ⟨hk, rfl⟩ := h8
            obtain rfl : f = 0 := by omega
            have HX := Lib.hid (show R = ([], 8) by rw [HR.out, walkR_many xs nx a hk]; rfl)
            clear HR hO hnx hlast h5
            rcases hk with rfl | rfl
            all_goals
              go_wp2_with fail
              try rw [Exit.noGoto_ret]
              go_ret2
              exact GivesWC.err 8 HX.out hB
          · have hk : (nx = 0 ∧ q = 0) ∨ (nx = 43 ∧ q < 8) ∨ (nx = 60 ∧ q < 8) := by omega
            obtain ⟨f, rfl⟩ : ∃ g, f = g + 1 := ⟨f - 1, by omega⟩
            have hk2 : (nx = 0 ∧ f = 7) ∨ nx = 43 ∨ nx = 60 := by omega
            have hbr := hb.below' hB hB.size
            clear h44 hlast h5 h8
            by_cases hs : a + 2 ≤ n ∧ a + hsz xs a ≤ n
            · have HM := Lib.hid (show R = joinPs (ps ++ [⟨nx, a, (hsz xs a : Nat)⟩]) (walkR xs f (xs.getD a 0) (a + hsz xs a)) by
                rw [HR.out, walkR_more xs f nx a hk2 (by rw [hb.len]; exact hs), joinPs_join])
              have HE := Lib.hid (extent_yes A n c a xs wr hn hs.1 hs.2 hbr)
              obtain ⟨z, hz⟩ : ∃ z, z = hsz xs a := ⟨_, rfl⟩
              have hz8 : 8 ≤ z := by rw [hz]; unfold hsz; omega
              rw [← hz] at HM HE hs
              clear HR hbr hk2 hz
              obtain ⟨b, o, rfl, hlt, hc⟩ := hb.mem (by omega)
              have cA := hc a (by omega)
              have vA := hb.nonneg a
              generalize xs.getD a 0 = x at *
              clear hc
              have hlB := Low.alloc wr (.cells #[.int .i64 nx, .int .i64 a, .int .i64 z] 55)
              have hB3 := hB.trans (hlB.mono hB.size)
              have hO3 := hO.below hlB
              have hs3 := Ps.one wr 55 ⟨nx, a, z⟩ ⟨hnx, by unfold i64ok; dsimp only; omega, by unfold i64ok; dsimp only; omega⟩ (B := wr.heap.size + 1) (by omega)
              clear hO hB hlB hnx
              have hs4 := hs.1
              have hs5 := hs.2
              clear hs
              rcases hk with ⟨rfl, rfl⟩ | ⟨rfl, hq8⟩ | ⟨rfl, hq8⟩
              all_goals
                go_wp2_with fail
                refine HE.out.mono ?_
                rintro e w1 ⟨rfl, rfl⟩
                go_wp2_with (at_builtin; refine wpList_append_ps rfl (.tmp 41) (.tmp 46) _ rfl w.heap.size 55 i0 Tryz.underlying51 HI.out HZ0.out HZ1.out HZ2.out _ _ c1 ps rfl hO3 _ 1 _ _ _ rfl hs3 (by omega) hB3.size ?_; intro A4 c4 w4 hO4 hg4 hb4; have hB4 : Below w.heap.size w w4 := hB3.grown hg4 hB3.size (fun k hk => (hO3.lt k hk).1); have cA4 := (hB4.cell (p := ⟨b, o + a, none⟩) hlt).trans cA)
                go_roundw
                case rel =>
                  first
                  | exact ⟨x, a + z, _, f, A4, c4, _, rfl, by go_num, rfl, by omega, by omega, by unfold i64ok; omega, hO4, HM.out, hB4⟩
                  | ((repeat apply Exists.intro); refine ⟨?_, rfl⟩; exact ⟨x, a + z, _, f, A4, c4, _, rfl, by go_num, rfl, by omega, by omega, by unfold i64ok; omega, hO4, HM.out, hB4⟩)
                case measure => simp [intOf]; omega
            · have HX := Lib.hid (show R = ([], 3) by rw [HR.out, walkR_short xs f nx a hk2 (by rw [hb.len]; exact hs)]; rfl)
              have HE := Lib.hid (extent_no A n c a xs wr hn ha hs hbr)
              clear HR hO hnx hk2 hbr hs
              rcases hk with ⟨rfl, rfl⟩ | ⟨rfl, hq8⟩ | ⟨rfl, hq8⟩
              all_goals
                go_wp2_with fail
                refine HE.out.mono ?_
                rintro e w1 ⟨⟨v, rfl⟩, rfl⟩
                go_wp2_with fail
                try rw [Exit.noGoto_ret]
                go_ret2
                exact GivesWC.err 3 HX.out hB
set_option maxHeartbeats 400000 in
theorem walk_anyC (A : Option Addr) (n c : Nat) (xs : List Int) (next at_ : Int) (w : World) (hn : n ≤ 140737488355328) (hb : Bs w w.heap.size A n xs) (hx : i64ok next) (ha : i64ok at_) :
    Calls Tryz.prog 27 #[.slice A n c, .int .i64 next, .int .i64 at_] w (GivesWC w (walkL xs next at_)) := by
  by_cases h : at_ < 0 ∨ (n : Int) < at_
  · have HX := Lib.hid (show walkL xs next at_ = ([], 2) by unfold walkL; rw [hb.len, if_pos h])
    unfold i64ok at ha hx
    by_cases h0 : at_ < 0
    · clear h
      go_enter Tryz.func27, Tryz.ntmps27
      go_wp2_with fail
      go_step3
      go_wp2_with fail
      try rw [Exit.noGoto_ret]
      go_ret2
      exact GivesWC.err 2 HX.out (Below.refl _ _)
    · have h1 : (n : Int) < at_ := by omega
      clear h
      go_enter Tryz.func27, Tryz.ntmps27
      go_wp2_with fail
      go_step3
      go_wp2_with fail
      try rw [Exit.noGoto_ret]
      go_ret2
      exact GivesWC.err 2 HX.out (Below.refl _ _)
  · obtain ⟨a, rfl⟩ : ∃ a : Nat, at_ = a := ⟨at_.toNat, by omega⟩
    have e : walkL xs next a = walkR xs 8 next a := by unfold walkL; rw [hb.len, if_neg h]; rfl
    rw [e]
    exact walk_fromC A n c xs next a w hn hb hx (by omega)

end Go.Proofs.YtjafjapnmffohaaGreatDoor
