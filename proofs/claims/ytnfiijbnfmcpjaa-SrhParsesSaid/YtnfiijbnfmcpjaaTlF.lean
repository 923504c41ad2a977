/- What tlv.behind and tlv.Parse answer: the parts of bytes. Condition: at most 2^32 bytes. -/
import Derived.Test.YtnfiijbnfmcpjaaTlC
import Derived.Test.YtnfiijbnfmcpjaaTpJ
import Derived.Test.YtnfiijbnfmcpjaaTpG
import Derived.Test.YtnfiijbnfmcpjaaSlc
import Derived.WalkMore
import Derived.ScopeJumps
namespace Go.Proofs.Ytnfiijbnfmcpjaa
open Go.RowKit
set_option linter.unusedVariables false

section
variable {P : Program} {a : Act} {w : World} {Q : Exit → Act → World → Prop}
/-- a scope whose one label is come to from above, too: the way from the label on is walked once -/
theorem wp_scope_head {c B : Code} (l : Nat) (J : Act → World → Prop) (μ : Act → World → Nat) (hf : findLabel c l = some (.seq .skip B)) (head : ∀ Q' : Exit → Act → World → Prop, (∀ a w, J a w → B.wp P Q' a w) → c.wp P Q' a w)
    (pass : ∀ a w, J a w → B.wp P (Exit.jump l (fun a' w' => J a' w' ∧ μ a' w' < μ a w) Q) a w) : (Code.scope c).wp P Q a w :=
  wp_scope_jumps l J μ hf (head _ fun a1 w1 hJ => Code.wp_mono (fun e a2 w2 h => by
    cases e with
    | goto l' => exact ⟨h.1, h.2.1⟩
    | normal => exact h
    | exit id => exact h
    | ret => exact h
    | panic ch => exact h
    | outgrown => exact h) (pass a1 w1 hJ)) (fun a1 w1 hJ => wp_seq (wp_skip (pass a1 w1 hJ)))
end

theorem slcT_from (b o n c s : Nat) (q : Int) (hc : n ≤ c) (hq : q = s) (h2 : s ≤ n) :
    ∃ o', (∀ u, (Instr.sliceAt 28 (.slice (some ⟨b, o, none⟩) n c) (some (.int .i64 q)) none none).run Try.prog u = .ok (.slice (some ⟨b, o', none⟩) (n - s) (c - s)) u) ∧ (0 < n - s → o' = o + s) := by
  subst hq
  have i2 : (s : Int) ≤ n := by omega
  have i4 : (n : Int) ≤ c := by omega
  have i3 : (s : Int) ≤ c := by omega
  by_cases h : c = s
  · obtain rfl : n = s := by omega
    subst h
    exact ⟨o, fun u => by go_simp, fun h => by omega⟩
  · exact ⟨o + s, fun u => by go_simp, fun _ => rfl⟩

theorem info_tlv : (Try.prog.info? 65).map (fun i => (i.zero, i.size, i.bytes)) = some (some zeroOV, 2, 32) := by kernel_rfl

theorem Od.off.own {t : TypeId} {w' : World} {X : Option Nat} {base n c : Nat} {k : Int} {A : Option Addr} {ys : List Int} (hk : i64ok k) (hn : n ≤ 140737488355328) (h : OwnB t w' base A n c ys) (hX : ∀ x, X = some x → x < base) : Od.off w' X ⟨k, A, n, c, ys⟩ :=
  ⟨hk, hn, h.len, h.2, fun h0 => by
    obtain ⟨g, cap, hv, hb, hlt⟩ := World.ownsRow.form h.1 h0
    have hA : A = some ⟨g, 0, none⟩ := by injection hv
    obtain ⟨b, o, e, _, hc⟩ := (h.bs (Nat.le_refl _)).mem h0
    rw [hA] at e
    injection e with e
    injection e with e1 e2 _
    subst e1 e2
    exact ⟨g, 0, hA, hlt, fun e => by have := hX g e.symm; omega, hc⟩⟩
theorem Od.from_.own {t : TypeId} {w' : World} {lo base n c : Nat} {k : Int} {A : Option Addr} {ys : List Int} (h : OwnB t w' base A n c ys) (hl : lo ≤ base) : Od.from_ lo ⟨k, A, n, c, ys⟩ := fun h0 => by
  obtain ⟨g, cap, hv, hb, _⟩ := World.ownsRow.form h.1 h0
  have hA : A = some ⟨g, 0, none⟩ := by injection hv
  exact ⟨g, 0, hA, by omega⟩

theorem parseT_zero {f : Nat} {xs : List Int} (h : xs ≠ []) (h0 : xs.getD 0 0 = 0) : parseT (f + 1) xs = parseT f (xs.drop 1) := by rw [parseT, if_neg h, if_pos h0]
theorem parseT_short {f : Nat} {xs : List Int} (h : xs ≠ []) (h0 : xs.getD 0 0 ≠ 0) (hs : shortT xs) : parseT (f + 1) xs = ([], 3) := by rw [parseT, if_neg h, if_neg h0, if_pos hs]
theorem parseT_next {f : Nat} {xs : List Int} (h : xs ≠ []) (h0 : xs.getD 0 0 ≠ 0) (hs : ¬ shortT xs) : parseT (f + 1) xs = joinO (keepT xs) (parseT f (xs.drop (2 + (xs.getD 1 0).toNat))) := by rw [parseT, if_neg h, if_neg h0, if_neg hs]

set_option maxHeartbeats 800000 in
theorem behind_no (A : Option Addr) (n c : Nat) (xs : List Int) (w : World) (hn : n ≤ 140737488355328) (hc : n ≤ c) (hc2 : c ≤ 9223372036854775807) (h0 : 0 < n) (hb : Bs w w.heap.size A n xs) (hs : shortT xs) :
    Calls Try.prog 36 #[.slice A n c] w fun e w' => e = .returned (.tuple #[.slice none 0 0, .bool false]) ∧ w' = w := by
  obtain ⟨b, o, rfl, hbl, hcc⟩ := hb.mem h0
  unfold shortT at hs
  rw [hb.len] at hs
  have hn2 := hb.nonneg 1
  by_cases h2 : n < 2
  · clear hb hcc hs
    go_enter Try.func36, Try.ntmps36
    go_wp2_with fail
    go_ret2
    exact ⟨rfl, rfl⟩
  · have c1 := hcc 1 (by omega)
    have hs2 : (n : Int) - 2 < xs.getD 1 0 := by omega
    obtain ⟨o', hr, -⟩ := slcT_from b o n c 2 2 hc rfl (by omega)
    have HR := Lib.hid hr
    generalize xs.getD 1 0 = x1 at *
    have hs3 : ((n - 2 : Nat) : Int) < x1 := by omega
    clear hb hcc hs hr
    go_enter Try.func36, Try.ntmps36
    go_wp2_with (refine slc_wp rfl _ _ _ _ _ rfl _ (HR.out _) ?_; refine Hid.out ?_)
    refine Lib.hid ?_
    go_wp2_with fail
    go_ret2
    exact ⟨rfl, rfl⟩

set_option maxHeartbeats 800000 in
theorem behind_yes (A : Option Addr) (n c : Nat) (xs : List Int) (w : World) (hn : n ≤ 140737488355328) (hc : n ≤ c) (hc2 : c ≤ 9223372036854775807) (h0 : 0 < n) (hb : Bs w w.heap.size A n xs) (hs : ¬ shortT xs) (s : Nat) (hs1 : xs.getD 1 0 = (s : Nat)) :
    Calls Try.prog 36 #[.slice A n c] w fun e w' => (∃ A', e = .returned (.tuple #[.slice A' s (c - 2), .bool true]) ∧ Bs w w.heap.size A' s ((xs.drop 2).take s)) ∧ w' = w := by
  obtain ⟨b, o, rfl, hbl, hcc⟩ := hb.mem h0
  unfold shortT at hs
  rw [hb.len, hs1] at hs
  have h2 : 2 ≤ n := by omega
  have c1 := hcc 1 (by omega)
  rw [hs1] at c1
  obtain ⟨o', hr, ho'⟩ := slcT_from b o n c 2 2 hc rfl h2
  have HR := Lib.hid hr
  have HB := Lib.hid ((hb.cutFrom (A' := some ⟨b, o', none⟩) h2 fun h => by rw [ho' h]).cutUpto (m := s) (by omega))
  have hs3 : (s : Int) ≤ ((n - 2 : Nat) : Int) := by omega
  have HU := Lib.hid (slc_upto b o' (n - 2) (c - 2) s s (by omega) rfl (by omega))
  clear hb hcc hs hr hs1
  go_enter Try.func36, Try.ntmps36
  go_wp2_with (refine slc_wp rfl _ _ _ _ _ rfl _ (HR.out _) ?_; refine Hid.out ?_)
  refine Lib.hid ?_
  go_wp2_with (refine slc_wp rfl _ _ _ _ _ rfl _ (HU.out _) ?_; refine Hid.out ?_)
  refine Lib.hid ?_
  go_wp2_with fail
  go_ret2
  exact ⟨⟨_, rfl, HB.out⟩, rfl⟩

/-- where the parsing stands -/
def ParT (w : World) (R : List Ob × Int) (v0 v4 : Value) (wr : World) : Prop :=
  ∃ A n c xs f LA q lc os, v0 = .slice A n c ∧ v4 = .slice LA q lc ∧ Bs wr w.heap.size A n xs ∧ n ≤ c ∧ c ≤ 9223372036854775807 ∧ q + n ≤ 4294967296 ∧ n < f ∧ OwnO 65 wr w.heap.size LA q lc os ∧ (∀ o ∈ os, o.off wr (Value.slice LA q lc).ownBlock) ∧ Hid (R = joinO (os.map Od.v) (parseT f xs)) ∧ Below w.heap.size w wr ∧ Hid (∀ o ∈ os, o.from_ w.heap.size)

set_option maxRecDepth 100000 in
set_option maxHeartbeats 3200000 in
theorem tlparse_any (A : Option Addr) (n c : Nat) (xs : List Int) (w : World) (hn : n ≤ 4294967296) (hc : n ≤ c) (hc2 : c ≤ 9223372036854775807) (hb : Bs w w.heap.size A n xs) :
    Calls Try.prog 26 #[.slice A n c] w (GivesO w (parseTL xs)) := by
  obtain ⟨i0, hi, hz0, hz1, hz2⟩ := info_parts info_tlv
  have HX := Lib.hid (show parseTL xs = joinO (List.map Od.v []) (parseT (n + 1) xs) by
    unfold parseTL
    rw [hb.len]
    exact (joinO_nil _ (parseT_err_nil _ xs)).symm)
  generalize parseTL xs = R at *
  have hrel0 : ParT w R (.slice A n c) (.slice none 0 0) w := ⟨A, n, c, xs, n + 1, none, 0, 0, [], rfl, rfl, hb, hc, hc2, by omega, by omega, OwnO.none_ _ _ _, (fun o h => by cases h), HX, Below.refl _ _, Lib.hid (fun o h => by cases h)⟩
  have HREL := Lib.hid hrel0
  clear hb HX hrel0
  go_enter Try.func26, Try.ntmps26
  go_wp2_with fail
  refine wp_scope_head 0 (fun a' w' => ∃ (v0 v4 u1 u5 u6 u7 u8 u9 u10 u11 u12 u13 u14 u15 u16 u17 u18 u19 u20 u21 u22 u23 u24 u25 u26 u27 u28 u29 u30 u31 u32 u33 u34 u35 u36 u37 u38 u39 u40 : Value), a' = { tmps := #[v0, u1, .slice none 0 0, .int .i64 0, v4, u5, u6, u7, u8, u9, u10, u11, u12, u13, u14, u15, u16, u17, u18, u19, u20, u21, u22, u23, u24, u25, u26, u27, u28, u29, u30, u31, u32, u33, u34, u35, u36, u37, u38, u39, u40], defers := [] } ∧ ParT w R v0 v4 w') (fun a' _ => valLen (a'.tmps.getD 0 undef)) rfl ?ghead ?gpass
  case ghead =>
    intro Q' h
    go_wp2_with fail
    go_step3
    rename_i K hK
    exact hK _ _ (h _ _ ⟨_, _, _, _, _, _, _, _, _, _, _, _, _, _, _, _, _, _, _, _, _, _, _, _, _, _, _, _, _, _, _, _, _, _, _, _, _, _, _, rfl, HREL.out⟩)
  case gpass =>
    rintro a1 wr ⟨v0, v4, u1, u5, u6, u7, u8, u9, u10, u11, u12, u13, u14, u15, u16, u17, u18, u19, u20, u21, u22, u23, u24, u25, u26, u27, u28, u29, u30, u31, u32, u33, u34, u35, u36, u37, u38, u39, u40, rfl, hrel⟩
    obtain ⟨A, n, c, xs, f, LA, q, lc, os, rfl, rfl, hb, hc, hc2, hq, hf, hown, hoff, HR, hB, HF⟩ := hrel
    by_cases h0 : 0 < n
    · obtain ⟨f, rfl⟩ : ∃ f', f = f' + 1 := ⟨f - 1, by omega⟩
      have hsz := hB.size
      have hxne : xs ≠ [] := fun e => by have := hb.len; rw [e] at this; simp at this; omega
      have hbm := hb.more hsz
      have hn1 := hb.nonneg 0
      have hn2 := hb.nonneg 1
      obtain ⟨b, o, rfl, hbl, hcc⟩ := hb.mem h0
      have c1 : wr.cell? ⟨b, o, none⟩ = some (.int .u8 (xs.getD 0 0)) := hcc 0 h0
      have hne0 : ((n : Int) == 0) = false := by simp; omega
      have HOWN := Lib.hid hown
      have HOFF := Lib.hid hoff
      have HB := Lib.hid hb
      by_cases hz : xs.getD 0 0 = 0
      · have HR2 := Lib.hid (HR.out.trans (by rw [parseT_zero hxne hz]))
        rw [hz] at c1
        obtain ⟨o', hr, ho'⟩ := slcT_from b o n c 1 1 hc rfl (by omega)
        have HS := Lib.hid hr
        have HC := Lib.hid (hb.cutFrom (A' := some ⟨b, o', none⟩) (s := 1) (by omega) fun h => by rw [ho' h])
        clear HR hown hoff hb hbm hcc hn1 hn2 hz hxne hr ho'
        go_wp2_with (refine slc_wp rfl _ _ _ _ _ rfl _ (HS.out _) ?_; refine Hid.out ?_)
        refine Lib.hid ?_
        go_wp2_with fail
        go_step3
        refine ⟨rfl, ⟨_, _, _, _, _, _, _, _, _, _, _, _, _, _, _, _, _, _, _, _, _, _, _, _, _, _, _, _, _, _, _, _, _, _, _, _, _, _, _, rfl, ⟨_, n - 1, c - 1, xs.drop 1, f, LA, q, lc, os, rfl, rfl, HC.out, by omega, by omega, by omega, by omega, HOWN.out, HOFF.out, HR2, hB, HF⟩⟩, ?_⟩
        simp only [valLen]
        show n - 1 < n
        omega
      · have hzb : (xs.getD 0 0 == 0) = false := by simpa using hz
        by_cases hs : shortT xs
        · have HR2 := Lib.hid (show R = ([], 3) by rw [HR.out, parseT_short hxne hz hs]; simp [joinO])
          have HBN := Lib.hid (behind_no (some ⟨b, o, none⟩) n c xs wr (by omega) hc hc2 h0 hbm hs)
          generalize xs.getD 0 0 = x0 at *
          clear HR hown hoff hb hbm hcc hn2 hz hxne hs
          go_wp2_with fail
          refine HBN.out.mono ?_
          rintro e w' ⟨rfl, rfl⟩
          go_wp2_with fail
          simp only [Exit.jump]
          go_ret2
          exact GivesO.err 3 HR2.out hB
        · obtain ⟨s, hs1⟩ : ∃ s : Nat, xs.getD 1 0 = (s : Nat) := ⟨(xs.getD 1 0).toNat, by omega⟩
          have hs9 := hs
          unfold shortT at hs9
          rw [hb.len, hs1] at hs9
          have hsn : 2 + s ≤ n := by omega
          have hs255 : s < 256 := by omega
          have HBY := Lib.hid (behind_yes (some ⟨b, o, none⟩) n c xs wr (by omega) hc hc2 h0 hbm hs s hs1)
          have HR1 := Lib.hid (HR.out.trans (by rw [parseT_next hxne hz hs, hs1, Int.toNat_natCast]))
          obtain ⟨o', hr, ho'⟩ := slcT_from b o n c (2 + s) ((2 : Int) + s) hc (by omega) hsn
          have HS := Lib.hid hr
          have HC := Lib.hid (hb.cutFrom (A' := some ⟨b, o', none⟩) (s := 2 + s) hsn fun h => by rw [ho' h])
          have hkp : keepT xs = if xs.getD 0 0 = 4 then [] else [(xs.getD 0 0, (xs.drop 2).take s)] := by unfold keepT; rw [hs1, Int.toNat_natCast]
          have HKP := Lib.hid hkp
          generalize xs.getD 0 0 = x0 at *
          clear HR hown hoff hb hbm hcc hn2 hs1 hs hs9 hr ho' hxne hkp
          go_wp2_with fail
          refine HBY.out.mono ?_
          rintro e w' ⟨⟨AD, rfl, hbd⟩, hww⟩
          obtain rfl : wr = w' := hww.symm
          have HBD := Lib.hid hbd
          clear hbd
          go_wp2_with (refine slc_wp rfl _ _ _ _ _ rfl _ (HS.out _) ?_; refine Hid.out ?_)
          refine Lib.hid ?_
          by_cases h4 : x0 = 4
          · subst h4
            have HR2 := Lib.hid (show R = joinO (os.map Od.v) (parseT f (xs.drop (2 + s))) by
              have := HR1.out
              rw [HKP.out, if_pos rfl, joinO_join, List.append_nil] at this
              exact this)
            go_wp2_with fail
            go_step3
            refine ⟨rfl, ⟨_, _, _, _, _, _, _, _, _, _, _, _, _, _, _, _, _, _, _, _, _, _, _, _, _, _, _, _, _, _, _, _, _, _, _, _, _, _, _, rfl, ⟨_, n - (2 + s), c - (2 + s), xs.drop (2 + s), f, LA, q, lc, os, rfl, rfl, HC.out, by omega, by omega, by omega, by omega, HOWN.out, HOFF.out, HR2, hB, HF⟩⟩, ?_⟩
            simp only [valLen]
            show n - (2 + s) < n
            omega
          · have h4b : (x0 != 4) = true := by simpa using h4
            have HR2 := Lib.hid (show R = joinO (os.map Od.v ++ [(x0, (xs.drop 2).take s)]) (parseT f (xs.drop (2 + s))) by
              have := HR1.out
              rw [HKP.out, if_neg h4, joinO_join] at this
              exact this)
            have HK := Lib.hid (And.intro h4 hz)
            have hltO := HOWN.out.lt
            clear h4 hz
            go_wp2_with fail
            refine (clone_any AD s (c - 2) ((xs.drop 2).take s) wr (by omega) HBD.out).mono ?_
            rintro e w1 ⟨A3, c3, rfl, hown3, hB3⟩
            have hds : ((xs.drop 2).take s).length = s := HBD.out.len
            rw [hds] at hown3 ⊢
            have hi64 : i64ok x0 := by unfold i64ok; omega
            have hoff3 := Od.off.own (k := x0) (X := (Value.slice LA q lc).ownBlock) hi64 (by omega) hown3 (fun x e => (hltO x e).2)
            have HF3 := Lib.hid (Od.from_.own (k := x0) hown3 hsz)
            generalize (xs.drop 2).take s = ys at *
            have hl1 := Low.alloc w1 (.cells #[.int .i64 x0, .slice A3 s c3] 65)
            have hown1 := HOWN.out.below (Low.trans hB3 hl1)
            have hsrc := Os.one w1 65 ⟨x0, A3, s, c3, ys⟩ (B := w1.heap.size + 1) hoff3.ok (by omega)
            have HO3 : Hid (∀ o ∈ os, o.off _ (Value.slice LA q lc).ownBlock) := Lib.hid fun o h => (HOFF.out o h).below (Low.trans hB3 hl1)
            have HO4 := Lib.hid (hoff3.below hl1)
            have HLR := Lib.hid ((Low.trans hB3 hl1).mono hsz)
            have HB3 := Lib.hid (hB.trans HLR.out)
            clear hown3 hoff3 hl1 hB3 hds hi64
            go_wp2_with (at_builtin; refine wpList_append_os rfl _ _ 23 rfl w.heap.size 65 i0 Try.underlying23 hi hz0 hz1 hz2 LA q lc os rfl hown1 _ 1 1 (w1.heap.size + 1) [⟨x0, A3, s, c3, ys⟩] rfl hsrc (by omega) HB3.out.size ?_; intro A2 c2 w2 hown2 hgr hob; refine Hid.out ?_)
            refine Lib.hid ?_
            have hB4 : Below w.heap.size w w2 := HB3.out.grown hgr HB3.out.size fun x e => (hltO x e).1
            have hBr : Below w.heap.size wr w2 := HLR.out.grown hgr HB3.out.size fun x e => (hltO x e).1
            have HCC := Lib.hid (HC.out.below hBr)
            have HO5 : Hid (∀ o ∈ os ++ [⟨x0, A3, s, c3, ys⟩], Od.off w2 (Value.slice A2 (q + 1) c2).ownBlock o) := Lib.hid fun o h => by
              rcases List.mem_append.1 h with h | h
              · exact (HO3.out o h).grown hgr hob
              · obtain rfl : o = ⟨x0, A3, s, c3, ys⟩ := by simpa using h
                exact HO4.out.grown hgr hob
            have HF4 : Hid (∀ o ∈ os ++ [⟨x0, A3, s, c3, ys⟩], Od.from_ w.heap.size o) := Lib.hid fun o h => by
              rcases List.mem_append.1 h with h | h
              · exact HF.out o h
              · obtain rfl : o = ⟨x0, A3, s, c3, ys⟩ := by simpa using h
                exact HF3.out
            have HOWN2 := Lib.hid hown2
            clear hown2 hgr hob hsrc hown1 hBr
            go_wp2_with fail
            go_step3
            refine ⟨rfl, ⟨_, _, _, _, _, _, _, _, _, _, _, _, _, _, _, _, _, _, _, _, _, _, _, _, _, _, _, _, _, _, _, _, _, _, _, _, _, _, _, rfl, ⟨_, n - (2 + s), c - (2 + s), xs.drop (2 + s), f, A2, q + 1, c2, os ++ [⟨x0, A3, s, c3, ys⟩], rfl, rfl, HCC.out, by omega, by omega, by omega, by omega, HOWN2.out, HO5.out, Lib.hid ?_, hB4, HF4⟩⟩, ?_⟩
            · rw [HR2.out, List.map_append]
              rfl
            · simp only [valLen]
              show n - (2 + s) < n
              omega
    · obtain rfl : n = 0 := by omega
      obtain rfl : xs = [] := List.eq_nil_of_length_eq_zero hb.len
      have HRR := Lib.hid (show R = (os.map Od.v, 0) by
        rw [HR.out]
        cases f with
        | zero => omega
        | succ f => simp [parseT, joinO])
      have hlen := hown.len
      have HOWN := Lib.hid hown
      have HOFF := Lib.hid hoff
      clear HR hown hoff hb
      go_wp2_with fail
      simp only [Exit.jump]
      go_ret2
      rw [HRR.out]
      refine ⟨LA, lc, os, ?_, rfl, ?_, hB, by simpa [hlen] using OFrom.own HOWN.out (Nat.le_refl _) HF.out⟩
      · simp [hlen]
      · simpa [hlen] using HOWN.out.lies (Nat.le_refl _) fun o h => (HOFF.out o h).ok
end Go.Proofs.Ytnfiijbnfmcpjaa
