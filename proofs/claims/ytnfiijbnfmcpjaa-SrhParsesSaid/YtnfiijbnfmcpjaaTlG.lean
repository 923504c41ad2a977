/- What the document's own Parse answers: the parts of bytes. Condition: at most 2^32 bytes. -/
import Derived.Test.YtnfiijbnfmcpjaaTlF
import Derived.Test.YtnfiijbnfmcpjaaTpK
import Derived.Test.YtnfiijbnfmcpjaaReg3
namespace Go.Proofs.Ytnfiijbnfmcpjaa
open Go.RowKit
set_option linter.unusedVariables false

theorem drop_ne {xs : List Int} {n p : Nat} (hl : xs.length = n) (hp : p < n) : xs.drop p ≠ [] := fun e => by
  have := congrArg List.length e
  rw [List.length_drop, hl] at this
  simp at this
  omega
theorem keepT_at (xs : List Int) (p s : Nat) (hs : xs.getD (p + 1) 0 = (s : Nat)) : keepT (xs.drop p) = if xs.getD p 0 = 4 then [] else [(xs.getD p 0, (xs.drop (p + 2)).take s)] := by
  unfold keepT
  rw [getD_drop, getD_drop, List.drop_drop, hs, Int.toNat_natCast]
  rfl
/-- where the document's parsing stands -/
def RarT (w : World) (R : List Ob × Int) (n : Nat) (xs : List Int) (v4 v5 : Value) (wr : World) : Prop :=
  ∃ p f LA q lc os, p ≤ n ∧ v5 = .int .i64 (p : Nat) ∧ v4 = .slice LA q lc ∧ q ≤ p ∧ n - p < f ∧ OwnO 65 wr w.heap.size LA q lc os ∧ (∀ o ∈ os, o.off wr (Value.slice LA q lc).ownBlock) ∧ Hid (R = joinO (os.map Od.v) (parseT f (xs.drop p))) ∧ Below w.heap.size w wr ∧ Hid (∀ o ∈ os, o.from_ w.heap.size)

set_option maxRecDepth 100000 in
set_option maxHeartbeats 3200000 in
theorem rtlparse_any (A : Option Addr) (n c : Nat) (xs : List Int) (w : World) (hn : n ≤ 4294967295) (hc : n ≤ c) (hc2 : c ≤ 9223372036854775807) (hb : Bs w w.heap.size A n xs) :
    Calls Try.prog 29 #[.slice A n c] w (GivesO w (parseTL xs)) := by
  obtain ⟨i0, hi, hz0, hz1, hz2⟩ := info_parts info_tlv
  obtain ⟨i5, h5, h50, h51, h52⟩ := info_parts info5
  have HX := Lib.hid (show parseTL xs = joinO (List.map Od.v []) (parseT (n + 1) xs) by
    unfold parseTL
    rw [hb.len]
    exact (joinO_nil _ (parseT_err_nil _ xs)).symm)
  generalize parseTL xs = R at *
  have hrel0 : RarT w R n xs (.slice none 0 0) (.int .i64 0) w := ⟨0, n + 1, none, 0, 0, [], Nat.zero_le _, rfl, rfl, Nat.le_refl _, by omega, OwnO.none_ _ _ _, (fun o h => by cases h), HX, Below.refl _ _, Lib.hid (fun o h => by cases h)⟩
  have HREL := Lib.hid hrel0
  have HBB := Lib.hid hb
  have hlen := hb.len
  clear hb HX hrel0
  go_enter Try.func29, Try.ntmps29
  go_wp2_with fail
  go_loopw [4, 5] (fun v4 v5 wr => RarT w R n xs v4 v5 wr) (fun _ v5 _ => n - (intOf v5).toNat)
  case atStart => exact HREL.out
  case round =>
    obtain ⟨p, f, LA, q, lc, os, hp, rfl, rfl, hq, hf, hown, hoff, HR, hB, HF⟩ := hrel
    by_cases hpn : p < n
    · obtain ⟨f, rfl⟩ : ∃ f', f = f' + 1 := ⟨f - 1, by omega⟩
      have hsz := hB.size
      have hxne := drop_ne hlen hpn
      have hn1 := HBB.out.nonneg p
      have hn2 := HBB.out.nonneg (p + 1)
      obtain ⟨b, o, rfl, hbl, hcc⟩ := HBB.out.mem (by omega)
      have q1 := hcc p hpn
      have c1 := (hB.cell (p := ⟨b, o + p, none⟩) hbl).trans q1
      have HOWN := Lib.hid hown
      have HOFF := Lib.hid hoff
      have hg0 : (xs.drop p).getD 0 0 = xs.getD p 0 := by rw [getD_drop]; rfl
      have hg1 : (xs.drop p).getD 1 0 = xs.getD (p + 1) 0 := getD_drop _ _ _
      by_cases hz : xs.getD p 0 = 0
      · have HR2 := Lib.hid (HR.out.trans (by rw [parseT_zero hxne (by rw [hg0]; exact hz), List.drop_drop]))
        rw [hz] at c1
        clear HR hown hoff hcc hn1 hn2 hz hxne q1 hg0 hg1
        go_wp2_with fail
        refine ⟨⟨p + 1, f, LA, q, lc, os, by omega, ?_, rfl, by omega, by omega, HOWN.out, HOFF.out, HR2, hB, HF⟩, by simp [intOf]; omega⟩
        exact congrArg (Value.int .i64) (by omega)
      · have hzb : (xs.getD p 0 == 0) = false := by simpa using hz
        have hz2' : (xs.drop p).getD 0 0 ≠ 0 := by rw [hg0]; exact hz
        by_cases h1 : p = n - 1
        · have hsh : shortT (xs.drop p) := by unfold shortT; rw [List.length_drop, hlen]; omega
          have HR2 := Lib.hid (show R = ([], 3) by rw [HR.out, parseT_short hxne hz2' hsh]; simp [joinO])
          have h1b : ((p : Int) == (n : Int) - 1) = true := by simp; omega
          generalize xs.getD p 0 = x0 at *
          clear HR hown hoff hcc hn2 hz hxne hsh q1 hg0 hg1 hz2' h1
          go_wp2_with fail
          go_ret2
          exact GivesO.err 3 HR2.out hB
        · have h1b : ((p : Int) == (n : Int) - 1) = false := by simp; omega
          have hp1 : p + 1 < n := by omega
          have q2 := hcc (p + 1) hp1
          have c2 := (hB.cell (p := ⟨b, o + (p + 1), none⟩) hbl).trans q2
          by_cases h2 : (n : Int) - p - 2 < xs.getD (p + 1) 0
          · have hsh : shortT (xs.drop p) := by unfold shortT; rw [List.length_drop, hlen, hg1]; omega
            have HR2 := Lib.hid (show R = ([], 3) by rw [HR.out, parseT_short hxne hz2' hsh]; simp [joinO])
            generalize xs.getD p 0 = x0 at *
            generalize xs.getD (p + 1) 0 = x1 at *
            clear HR hown hoff hcc hz hxne hsh q1 q2 hg0 hg1 hz2'
            go_wp2_with fail
            go_ret2
            exact GivesO.err 3 HR2.out hB
          · obtain ⟨s, hs1⟩ : ∃ s : Nat, xs.getD (p + 1) 0 = (s : Nat) := ⟨(xs.getD (p + 1) 0).toNat, by omega⟩
            have hsn : p + 2 + s ≤ n := by omega
            have hs255 : s < 256 := by omega
            have hsh : ¬ shortT (xs.drop p) := by unfold shortT; rw [List.length_drop, hlen, hg1, hs1]; omega
            have HR1 := Lib.hid (HR.out.trans (by rw [parseT_next hxne hz2' hsh, hg1, hs1, Int.toNat_natCast, List.drop_drop]))
            have HKP := Lib.hid (keepT_at xs p s hs1)
            rw [hs1] at c2 h2
            generalize xs.getD p 0 = x0 at *
            clear HR hown hoff hcc hn2 hz2' hxne hsh q2 hg0 hg1 hs1
            by_cases h4 : x0 = 4
            · subst h4
              have HR2 := Lib.hid (show R = joinO (os.map Od.v) (parseT f (xs.drop (p + (2 + s)))) by
                have := HR1.out
                rw [HKP.out, if_pos rfl, joinO_join, List.append_nil] at this
                exact this)
              clear hz
              go_wp2_with fail
              refine ⟨⟨p + (2 + s), f, LA, q, lc, os, by omega, ?_, rfl, by omega, by omega, HOWN.out, HOFF.out, HR2, hB, HF⟩, by simp [intOf]; omega⟩
              exact congrArg (Value.int .i64) (by omega)
            · have h4b : (x0 != 4) = true := by simpa using h4
              have HR2 := Lib.hid (show R = joinO (os.map Od.v ++ [(x0, (xs.drop (p + 2)).take s)]) (parseT f (xs.drop (p + (2 + s)))) by
                have := HR1.out
                rw [HKP.out, if_neg h4, joinO_join] at this
                exact this)
              obtain ⟨A8, hr8, hA8⟩ := slc_both b o n c (p + 2) (p + 2 + s) ((p : Int) + 2) ((p : Int) + 2 + s) hc (by omega) (by omega) (by omega) hsn
              have HS8 := Lib.hid hr8
              have hcut := HBB.out.cut (A' := A8) (s := p + 2) (m := p + 2 + s) (by omega) hsn hA8
              rw [show p + 2 + s - (p + 2) = s by omega] at hcut
              have hys : (xs.take (p + 2 + s)).drop (p + 2) = (xs.drop (p + 2)).take s := by
                rw [List.drop_take]
                congr 1
                omega
              rw [hys] at hcut
              have HCUT := Lib.hid hcut
              have hds := hcut.len
              generalize (xs.drop (p + 2)).take s = ys at *
              have hltO := HOWN.out.lt
              have HK := Lib.hid (And.intro h4 hz)
              clear h4 hz hr8 hcut hA8 hys
              go_wp2_with fail
              refine wp_region_planS (fun y => Below w.heap.size w y) (.rd 0 (.rd 1 (.rd 2 (.rd 3 (.rd 4 (.rd 5 (.rd 7 (.rd 8 (.rd 9 (.rd 10 (.rd 11 (.act 6 (.act 12 (.rd 13 (.act 14 (.act 15 (.rd 16 (.done)))))))))))))))))) (by kernel_rfl) (by kernel_rfl) (fun _ _ d _ _ h => by cases d <;> exact h) (by kernel_rfl) (Below.drew hB) ?_
              replace hB := Below.drew hB
              replace HOWN : Hid (OwnO 65 wr.drew w.heap.size LA q lc os) := HOWN
              replace HOFF : Hid (∀ o ∈ os, o.off wr.drew (Value.slice LA q lc).ownBlock) := HOFF
              replace hsz : w.heap.size ≤ wr.drew.heap.size := hsz
              replace hltO : ∀ k, (Value.slice LA q lc).ownBlock = some k → w.heap.size ≤ k ∧ k < wr.drew.heap.size := hltO
              clear c1 c2
              generalize wr.drew = u at *
              have hwx : IntKind.i64.wrap x0 = x0 := wraps_i64 _ (by omega) (by omega)
              have hw1 : IntKind.i64.wrap ((p : Int) + 2) = p + 2 := wraps_i64 _ (by omega) (by omega)
              iterate 10 (refine walkS_read (v := _) rfl (by rfl) (by
                intro y hy
                have e1 := (hy.cell (p := ⟨b, o + p, none⟩) hbl).trans q1
                go_simp; try rfl) ?_; simp only [Act.put, List.setIfInBounds_toArray, List.set_cons_zero, List.set_cons_succ])
              refine walkS_read (v := .slice A8 (p + 2 + s - (p + 2)) (c - (p + 2))) rfl (by rfl) (fun y hy => slc_exec (HS8.out y)) ?_
              simp only [Act.put, List.setIfInBounds_toArray, List.set_cons_zero, List.set_cons_succ]
              rw [show p + 2 + s - (p + 2) = s by omega]
              refine walkS_act rfl (by rfl) (fun K hK => ?_)
              go_simp
              have hl1 := Low.alloc u (.cells #[] 5)
              have hB1 := hB.trans (hl1.mono hsz)
              refine hK _ _ hB1 ?_
              clear hK K
              have hOf := OwnB.fresh (base := u.heap.size) u 5 (Nat.le_refl _)
              have hsz1 : u.heap.size ≤ (u.alloc (.cells #[] 5)).heap.size := hl1.size
              generalize hu1 : u.alloc (.cells #[] 5) = u1 at *
              have hsrc := HCUT.out.below hB1
              refine walkS_act rfl (by rfl) (fun K hK => ?_)
              refine wp_append_bs (.tmp 57) (.tmp 62) 28 rfl u.heap.size 5 i5 Try.underlying28 h5 h50 h51 h52 _ 0 0 [] rfl hOf A8 s (c - (p + 2)) w.heap.size ys rfl hsrc (by omega) hsz1 ?_
              intro A3 c3 u2 hown3 hgr hob
              have hl3 : Low u u2 := Below.grown hl1 hgr hsz1 (fun x e => (hOf.lt x e).1)
              have hB2 := hB.trans (hl3.mono hsz)
              refine hK _ _ hB2 ?_
              clear hK K hgr hob hsrc hOf hl1 hB1 hsz1 hu1
              rw [Nat.zero_add, List.nil_append] at hown3
              simp only [Act.put, List.setIfInBounds_toArray, List.set_cons_zero, List.set_cons_succ, Nat.zero_add]
              iterate 1 (refine walkS_read (v := _) rfl (by rfl) (by intro y hy; go_simp; try rfl) ?_; simp only [Act.put, List.setIfInBounds_toArray, List.set_cons_zero, List.set_cons_succ])
              have hi64 : i64ok x0 := by unfold i64ok; omega
              have hoff3 := Od.off.own (k := x0) (X := (Value.slice LA q lc).ownBlock) hi64 (by omega) hown3 (fun x e => (hltO x e).2)
              have HF3 := Lib.hid (Od.from_.own (k := x0) hown3 hsz)
              have hl4 := Low.alloc u2 (.cells #[.int .i64 x0, .slice A3 s c3] 65)
              have hB3 := hB2.trans (hl4.mono hB2.size)
              refine walkS_act rfl (by rfl) (fun K hK => ?_)
              go_simp
              refine hK _ _ hB3 ?_
              clear hK K
              have hown1 := HOWN.out.below (Low.trans hl3 hl4)
              have hsrc := Os.one u2 65 ⟨x0, A3, s, c3, ys⟩ (B := u2.heap.size + 1) hoff3.ok (by omega)
              have HO3 : Hid (∀ o ∈ os, o.off _ (Value.slice LA q lc).ownBlock) := Lib.hid fun o h => (HOFF.out o h).below (Low.trans hl3 hl4)
              have HO4 := Lib.hid (hoff3.below hl4)
              clear hown3 hoff3 hl3 hl4
              refine walkS_act rfl (by rfl) (fun K hK => ?_)
              refine wp_append_os (.tmp 51) (.tmp 65) 23 rfl w.heap.size 65 i0 Try.underlying23 hi hz0 hz1 hz2 LA q lc os rfl hown1 _ 1 1 (u2.heap.size + 1) [⟨x0, A3, s, c3, ys⟩] rfl hsrc (by omega) hB3.size ?_
              intro A2 c2 w2 hown2 hgr hob
              have hB4 : Below w.heap.size w w2 := hB3.grown hgr hB3.size fun x e => (hltO x e).1
              refine hK _ _ hB4 ?_
              clear hK K
              simp only [Act.put, List.setIfInBounds_toArray, List.set_cons_zero, List.set_cons_succ]
              iterate 1 (refine walkS_read (v := _) rfl (by rfl) (by intro y hy; go_simp; try rfl) ?_; simp only [Act.put, List.setIfInBounds_toArray, List.set_cons_zero, List.set_cons_succ])
              unfold walkS
              have HO5 : Hid (∀ o ∈ os ++ [⟨x0, A3, s, c3, ys⟩], Od.off w2 (Value.slice A2 (q + 1) c2).ownBlock o) := Lib.hid fun o h => by
                rcases List.mem_append.1 h with h | h
                · exact (HO3.out o h).grown hgr hob
                · obtain rfl : o = ⟨x0, A3, s, c3, ys⟩ := by simpa using h
                  exact HO4.out.grown hgr hob
              have HF4 : Hid (∀ o ∈ os ++ [⟨x0, A3, s, c3, ys⟩], Od.from_ w.heap.size o) := Lib.hid fun o h => by
                rcases List.mem_append.1 h with h | h
                · exact HF.out o h
                · obtain rfl : o = ⟨x0, A3, s, c3, ys⟩ := by simpa using h
                  exact HF3.out
              have HOWN2 := Lib.hid hown2
              clear hown2 hgr hob hsrc hown1 hB3 hB2 hB q1
              go_wp2_with fail
              refine ⟨⟨p + (2 + s), f, A2, q + 1, c2, os ++ [⟨x0, A3, s, c3, ys⟩], by omega, ?_, rfl, by omega, by omega, HOWN2.out, HO5.out, Lib.hid ?_, hB4, HF4⟩, by simp [intOf]; omega⟩
              · exact congrArg (Value.int .i64) (by omega)
              · rw [HR2.out, List.map_append]
                rfl
    · obtain rfl : p = n := by omega
      have HRR := Lib.hid (show R = (os.map Od.v, 0) by
        rw [HR.out, List.drop_of_length_le (by omega)]
        cases f with
        | zero => omega
        | succ f => simp [parseT, joinO])
      have hlo := hown.len
      have HOWN := Lib.hid hown
      have HOFF := Lib.hid hoff
      clear HR hown hoff
      go_wp2_with fail
      go_ret2
      rw [HRR.out]
      refine ⟨LA, lc, os, ?_, rfl, ?_, hB, by simpa [hlo] using OFrom.own HOWN.out (Nat.le_refl _) HF.out⟩
      · simp [hlo]
      · simpa [hlo] using HOWN.out.lies (Nat.le_refl _) fun o h => (HOFF.out o h).ok
end Go.Proofs.Ytnfiijbnfmcpjaa
