/- Stage 20: the walk of HistoryKeeps, given the program's own history. Conditions: the argument lies as the form says. -/
import Derived.Test.YtedldebomoplmaaHiG
set_option maxRecDepth 100000
namespace Go.Proofs.Ytedldebomoplmaa
open Go.RowKit
set_option linter.unusedVariables false

theorem ownsRow_setH {w : World} {base k n c g : Nat} {t : TypeId} {xs : List Value} (h : w.ownsRow base t k (.slice (some ⟨g, 0, none⟩) n c) n xs) (i : Nat) (u : Value) (hi : i < xs.length) : (w.setCell ⟨g, i, none⟩ u).ownsRow base t k (.slice (some ⟨g, 0, none⟩) n c) n (xs.set i u) := by
  obtain ⟨h1, h2⟩ := h
  refine ⟨by rw [List.length_set]; exact h1, ?_⟩
  rcases h2 with ⟨e, h0⟩ | ⟨g', cap, cur, hv, hbg, hg, hnc, hcm, hsz, htk⟩
  · cases e
  · injection hv with hA hn' hc'
    injection hA with hA
    injection hA with hA _ _
    subst hA hc'
    refine .inr ⟨g, c, cur.setIfInBounds i u, rfl, hbg, ?_, hnc, hcm, by simpa using hsz, ?_⟩
    · simp [World.setCell, Array.getElem?_modify, hg]
    · rw [← htk]
      simp [List.take_set]
theorem walkP_actskipH {P : Program} {ops : Array Oper} {Q : Exit → Act → World → Prop} {i : Nat} {r : Plan} {d : Option Tmp} {op : Op} {t : TypeId} {pos : String} {aft : Array Edge} {g : Option (Nat × Bool)} {a : Act} {w : World} (hi : ops[i]? = some ⟨d, op, t, pos, aft, g⟩)
    (hw : Region.wanted ⟨d, op, t, pos, #[], g⟩ (yielded ops a.tmps) = false) (h : walkP P ops Q r (a.put d undef) w) : walkP P ops Q (.act i r) a w := by
  have hw' : Region.wanted ⟨d, op, t, pos, aft, g⟩ (yielded ops a.tmps) = false := hw
  unfold walkP wpOp
  simp only [hi, hw', Bool.false_eq_true, if_false]
  exact ⟨Low.refl w, h⟩
theorem flat_over (now : Int) : ∀ (l : List Vd), 0 < l.length → (verE.flat l).set ((l.length - 1) * 4 + 2) (.int .i64 now) = verE.flat (overD now l)
  | [], h => absurd h (by simp)
  | [v], _ => by simp [Elt.flat, verE, vdC, overD]
  | v :: x :: r, _ => by
    have ih := flat_over now (x :: r) (by simp)
    rw [show overD now (v :: x :: r) = v :: overD now (x :: r) from rfl, Elt.flat_cons v (overD now (x :: r)), ← ih, Elt.flat_cons v (x :: r)]
    have hl : (verE.cells v).length = 4 := rfl
    rw [List.set_append_right _ _ (by rw [hl]; simp only [List.length_cons]; omega), hl]
    congr 2
    simp only [List.length_cons]
    omega
theorem overD_u (now : Int) : ∀ (l : List Vd) (x : Vd), x ∈ overD now l → (∀ z ∈ l, i64ok z.u) → i64ok now → i64ok x.u
  | [], x, h, _, _ => by cases h
  | [v], x, h, _, hn => by
    obtain rfl := List.mem_singleton.1 h
    exact hn
  | v :: y :: r, x, h, hz, hn => by
    rcases List.mem_cons.1 h with rfl | h
    · exact hz x List.mem_cons_self
    · exact overD_u now (y :: r) x h (fun z h => hz z (List.mem_cons_of_mem _ h)) hn
theorem OwnE.over {t : TypeId} {w : World} {base n c g : Nat} {l : List Vd} (h : OwnE verE t w base (some ⟨g, 0, none⟩) n c l) (h0 : 0 < n) (now : Int) : OwnE verE t (w.setCell ⟨g, (n - 1) * 4 + 2, none⟩ (.int .i64 now)) base (some ⟨g, 0, none⟩) n c (overD now l) := by
  have hl := h.2.2
  refine ⟨?_, verE_all _, by rw [overD_len, hl]⟩
  have h1 := ownsRow_setH h.1 ((n - 1) * 4 + 2) (.int .i64 now) (by rw [Elt.flat_len (verE_all l), hl]; show _ < n * 4; omega)
  have h2 := flat_over now l (by omega)
  rw [hl] at h2
  rw [h2] at h1
  exact h1
theorem info_hver : (Try.prog.info? 37).map (fun i => (i.zero, i.size, i.bytes)) = some (some (.agg #[.int .i64 0, .int .i64 0, .int .i64 0, .slice none 0 0]), 4, 48) := by kernel_rfl
theorem info_hver_parts : ∃ i, Try.prog.info? 37 = some i ∧ i.zero = some (.agg #[.int .i64 0, .int .i64 0, .int .i64 0, .slice none 0 0]) ∧ i.size = 4 ∧ i.bytes = 48 := by
  have h := info_hver
  cases hi : Try.prog.info? 37 with
  | none => simp [hi] at h
  | some i =>
    simp [hi] at h
    exact ⟨i, rfl, h.1, h.2.1, h.2.2⟩
/-- where the list of all pushes stands -/
structure AllH (all l : List Vb) (now : Int) (last : Int) : Prop where
  kept : KeptH all l now
  right : RightH l last
  many : last = all.length
  newest : 0 < l.length → (l.getD (l.length - 1) zeroVb).f = now
  pos : 0 ≤ now
  zero : l.length = 0 → now = 0
theorem AllH.nil : AllH [] [] 0 0 := ⟨KeptH.nil, RightH.nil, rfl, fun h => absurd h (by simp), Int.le_refl _, fun _ => rfl⟩
theorem AllH.push {all l : List Vb} {now0 last now : Int} (h : AllH all l now0 last) (t : List Int) (hm : mayH l now = 0) (hn : now ≤ 9223372036854775807) :
    AllH (overH now all ++ [⟨(all.length : Int) + 1, now, -1, t⟩]) (pushH l last now t) now (last + 1) := by
  obtain ⟨m1, m2, m3⟩ := mayH_zero hm
  have hnn : now0 ≤ now := by
    rcases Nat.eq_zero_or_pos l.length with h0 | h0
    · rw [h.zero h0]
      exact m1
    · rw [← h.newest h0]
      exact m2 h0
  refine ⟨h.kept.push h.right t hm hnn h.many, h.right.push t hm hn, ?_, fun _ => ?_, m1, fun h0 => ?_⟩
  · rw [List.length_append, overH_len, h.many]
    simp
  · have h1 := pushH_len l last now t
    have h2 := pushH_last l last now t
    rw [h1, show l.length - goneH l + 1 - 1 = l.length - goneH l by omega, h2]
  · have h1 := pushH_len l last now t
    omega

set_option maxHeartbeats 12800000 in
set_option maxRecDepth 100000 in
theorem hik_walk (O : HiObj) (A : Option Addr) (n c : Nat) (l : List Pd) (w : World) (hn : n ≤ 140737488355328) (ha : Sts w w.heap.size A n l) :
    Calls Try.prog 4 #[.slice A n c] w fun e w' => e = .returned (.bool true) ∧ Low w w' := by
  have HS := Lib.hid ha
  have HLV := Lib.hid fun u => hilives_any O u
  clear ha
  obtain ⟨j0, hi, hz0, hz1, hz2⟩ := info_hver_parts
  have RI := Lib.hid hi
  have RZ0 := Lib.hid hz0
  have RZ1 := Lib.hid hz1
  have RZ2 := Lib.hid hz2
  clear hi hz0 hz1 hz2
  go_enter Try.func4, Try.ntmps4
  go_wp2_with fail
  refine (O.new w).mono ?_
  rintro e w1 ⟨g, F0, rfl, hR, hF, hl⟩
  have HR := Lib.hid hR
  have HF := Lib.hid hF
  have HL := Lib.hid (show Below w.heap.size w w1 from hl)
  clear hR hF hl
  go_wp2_with fail
  go_loopw [4, 5] (fun v4 v5 wr => ∃ (i q : Nat) (D : Option Addr) (e : Nat) (AD : List Vd) (L : List Vb) (now0 last : Int) (F : Nat → Prop), i ≤ n ∧ i ≤ 40 ∧ v5 = .int .i64 i ∧ v4 = .slice D q e ∧ q ≤ i ∧
    Hid (AllH (AD.map Vd.v) L now0 last) ∧ Hid (OwnE verE 37 wr w.heap.size D q e AD) ∧ Hid (∀ k, (Value.slice D q e).ownBlock = some k → ¬ F k) ∧ Hid (∀ x ∈ AD, Ns w w.heap.size x.A x.k x.t ∧ x.k ≤ x.c ∧ x.k ≤ 17592186044416 ∧ i64ok x.u) ∧ Hid (O.R wr (.pointer (some ⟨g, 0, none⟩)) F L last) ∧ Hid (∀ k, F k → w.heap.size ≤ k) ∧ Hid (Below w.heap.size w wr)) (fun _ v _ => 40 - (intOf v).toNat)
  case atStart => exact ⟨0, 0, none, 0, [], [], 0, 0, F0, by omega, by omega, rfl, rfl, by omega, Lib.hid AllH.nil, Lib.hid (OwnE.none_ _ _ _ _), Lib.hid (fun k h => by cases h), Lib.hid (fun x h => by cases h), HR, HF, HL⟩
  case round =>
    clear HR HF HL
    obtain ⟨i, q, D, e, AD, L, now0, last, F, hi, hi40, rfl, rfl, hqi, HA, HO, HOF, HTB, HR, HF, HL⟩ := hrel
    by_cases hlt : i < n
    · have hlt2 : (i : Int) < n := by omega
      by_cases h40 : i < 40
      · have h402 : (i : Int) < 40 := by omega
        obtain ⟨b0, o0, rfl, hb0, x0, x1, hT, hkc, hk44, hnow⟩ := HS.out.at_ hlt
        generalize l.getD i zeroPd = x at *
        obtain ⟨now, tA, tk, tc, t⟩ := x
        dsimp only at x0 x1 hT hkc hk44 hnow
        have c0 := (HL.out.cell (p := ⟨b0, o0 + i * 2, none⟩) hb0).trans x0
        have c1 := (HL.out.cell (p := ⟨b0, o0 + i * 2 + 1, none⟩) hb0).trans x1
        have HT := Lib.hid hT
        clear hT
        have hal : (AD.map Vd.v).length = q := by rw [List.length_map]; exact HO.out.len
        have hlq : last = (q : Int) := by have := HA.out.many; rw [hal] at this; exact this
        subst hlq
        obtain ⟨wo, rfl⟩ : ∃ wo, wo = wr := ⟨_, rfl⟩
        go_wp2_with fail
        refine (O.push now tA tk tc t HR.out HA.out.right (by omega) hnow (HT.out.below' HL.out HL.out.size) hkc hk44).mono ?_
        rintro e2 w4 ⟨rfl, F', hR2, hG, hO⟩
        have HF2 := Lib.hid (hG.from_ HF.out HL.out.size)
        have HL4 := Lib.hid (HL.out.trans (hO.below HF.out HL.out.size))
        have HO4 := Lib.hid (HO.out.out HOF.out hO)
        have HOF4 := Lib.hid (show ∀ k, (Value.slice D q e).ownBlock = some k → ¬ F' k from fun k hk hF => by
          rcases hG k hF with h1 | h1
          · exact HOF.out k hk h1
          · have := (HO.out.lt k hk).2
            omega)
        replace c0 := (HL4.out.cell (p := ⟨b0, o0 + i * 2, none⟩) hb0).trans x0
        replace c1 := (HL4.out.cell (p := ⟨b0, o0 + i * 2 + 1, none⟩) hb0).trans x1
        by_cases he : mayH L now = 0
        · rw [he, show lastH (q : Int) 0 = (q : Int) + 1 from rfl, show nextH L (q : Int) now t = pushH L (q : Int) now t by unfold nextH; rw [if_pos he]] at hR2
          have HAP := Lib.hid (HA.out.push t he (by unfold i64ok at hnow; omega))
          rw [he]
          have HR4 := Lib.hid hR2
          have HHE := Lib.hid he
          clear hR2 hG hO he HR HL HO HOF HF
          by_cases hq0 : q = 0
          · have hAD : AD = [] := List.eq_nil_of_length_eq_zero (by rw [List.length_map] at hal; omega)
            have HAE := Lib.hid (show overD now AD = AD by rw [hAD]; rfl)
            have hq1 : ¬ (0 : Int) < q := by omega
            have HOZ : Hid (OwnE verE 37 w4 w.heap.size D q e (overD now AD)) := Lib.hid (by rw [HAE.out]; exact HO4.out)
            have HLZ := HL4
            have HRZ := HR4
            have HOFZ := HOF4
            clear HO4 HL4 HR4 HOF4 hAD
            replace hq0 := Lib.hid hq0
            have hO5 := HOZ.out.below (Low.alloc w4 (.cells #[.int .i64 ((q : Int) + 1), .int .i64 now, .int .i64 (-1), .slice tA tk tc] 37))
            have hsz8 : w4.heap.size = w4.heap.size := by simp
            have hE5 : Es verE (w4.alloc (.cells #[.int .i64 ((q : Int) + 1), .int .i64 now, .int .i64 (-1), .slice tA tk tc] 37)) (w4.heap.size + 1) (some ⟨w4.heap.size, 0, none⟩) 1 [⟨(q : Int) + 1, now, -1, tA, tk, tc, t⟩] := by
              rw [← hsz8]
              exact Es.one_ (E := verE) w4 37 ⟨(q : Int) + 1, now, -1, tA, tk, tc, t⟩ trivial (Nat.lt_succ_self _)
            have HL5 := Lib.hid (show Below w.heap.size w (w4.alloc (.cells #[.int .i64 ((q : Int) + 1), .int .i64 now, .int .i64 (-1), .slice tA tk tc] 37)) from HLZ.out.alloc HLZ.out.size _)
            have hbs : w.heap.size ≤ (w4.alloc (.cells #[.int .i64 ((q : Int) + 1), .int .i64 now, .int .i64 (-1), .slice tA tk tc] 37)).heap.size := HL5.out.size
            go_wp2_with (at_builtin; refine wpList_append_es (E := verE) rfl (.tmp 49) (.tmp 60) _ rfl w.heap.size 37 j0 _ 48 Try.underlying44 RI.out RZ0.out RZ1.out rfl RZ2.out D q e _ rfl hO5 _ 1 1 (w4.heap.size + 1) [⟨(q : Int) + 1, now, -1, tA, tk, tc, t⟩] rfl hE5 (by omega) (by omega) hbs ?_; intro A9 c9 w9 hown hgr hob; refine Hid.out ?_)
            refine Lib.hid ?_
            have HL9 := Lib.hid (show Below w.heap.size w w9 from Below.grown HL5.out hgr hbs (fun z hz => (hO5.lt z hz).1))
            have HR9 := Lib.hid (O.keep HRZ.out (by have := hgr.size; simp at this; omega) fun k hk => (hgr.block k (by have := O.under HRZ.out k hk; simp; omega) (fun e => HOFZ.out k e.symm hk)).trans (Below.heap_alloc _ _ _ (O.under HRZ.out k hk)))
            have HO9 := Lib.hid hown
            have HOF9 := Lib.hid (show ∀ k, (Value.slice A9 (q + 1) c9).ownBlock = some k → ¬ F' k from fun k hk => by
              rcases hob with h1 | h1
              · rw [h1] at hk
                exact HOFZ.out k hk
              · rw [h1] at hk
                injection hk with hk
                intro hF
                have := O.under HRZ.out k hF
                simp at hk
                omega)
            clear hown hgr hob hO5 hE5 HL5 hbs hsz8 HOZ HLZ HRZ HOFZ
            have HTB2 := Lib.hid (show ∀ x ∈ overD now AD ++ [(⟨(q : Int) + 1, now, -1, tA, tk, tc, t⟩ : Vd)], Ns w w.heap.size x.A x.k x.t ∧ x.k ≤ x.c ∧ x.k ≤ 17592186044416 ∧ i64ok x.u from fun x hx => by
              rcases List.mem_append.1 hx with hx | hx
              · obtain ⟨y, hy, eA, ek, ec, et⟩ := overD_mem now AD x hx
                have h2 := HTB.out y hy
                rw [eA, ek, ec, et]
                exact ⟨h2.1, h2.2.1, h2.2.2.1, overD_u now AD x hx (fun z hz => (HTB.out z hz).2.2.2) hnow⟩
              · obtain rfl := List.mem_singleton.1 hx
                exact ⟨HT.out, hkc, hk44, by unfold i64ok; dsimp only; omega⟩)
            have HAM := Lib.hid (show (overD now AD ++ [(⟨(q : Int) + 1, now, -1, tA, tk, tc, t⟩ : Vd)]).map Vd.v = overH now (AD.map Vd.v) ++ [⟨((AD.map Vd.v).length : Int) + 1, now, -1, t⟩] by rw [List.map_append, overD_v, hal]; rfl)
            rw [← HAM.out] at HAP
            generalize overD now AD ++ [(⟨(q : Int) + 1, now, -1, tA, tk, tc, t⟩ : Vd)] = AE at *
            clear HAM HTB HA c0 c1
            go_wp2_with fail
            refine (O.all HR9.out HAP.out.right (by omega)).mono ?_
            rintro e5 w10 ⟨A3, n3, c3, l3, rfl, hv3, _, hV3, _, _, hl⟩
            rw [← hv3] at HAP HR9
            have hal2 : AE.length = q + 1 := HO9.out.len
            have hl3 : l3.length = n3 := hV3.len
            have hn3 : n3 ≤ 4 := by have := HAP.out.right.few; rw [List.length_map, hl3] at this; exact this
            have HV3 := Lib.hid hV3
            have hnd : n3 ≤ q + 1 := by have := HAP.out.kept.len; rw [List.length_map, List.length_map, hl3, hal2] at this; exact this
            have HSAME := Lib.hid (show ∀ j, j < n3 → (l3.getD j zeroVd).v = (AE.getD (q + 1 - n3 + j) zeroVd).v from fun j hj => by
              have h1 := HAP.out.kept.same j (by rw [List.length_map, hl3]; exact hj)
              rw [List.length_map, List.length_map, hl3, hal2, getD_vb, getD_vb] at h1
              exact h1)
            have HGONE := Lib.hid (show ∀ j, j < q + 1 - n3 → 0 ≤ (AE.getD j zeroVd).u ∧ 16 ≤ now - (AE.getD j zeroVd).u from fun j hj => by
              have h1 := HAP.out.kept.gone j (by rw [List.length_map, List.length_map, hl3, hal2]; exact hj)
              rw [getD_vb] at h1
              exact h1)
            have HNUM := Lib.hid (show ∀ j, j < n3 → (l3.getD j zeroVd).n = (q : Int) + 1 - ((n3 - 1 - j : Nat) : Int) from fun j hj => by
              have h1 := HAP.out.right.num j (by rw [List.length_map, hl3]; exact hj)
              rw [List.length_map, hl3, getD_vb] at h1
              exact h1)
            have HNW := Lib.hid (show 0 ≤ now from HAP.out.pos)
            have HOL := Lib.hid (HO9.out.below hl)
            have HOE := Lib.hid ((HO9.out.below hl).lies (Nat.le_refl _))
            replace HR9 := Lib.hid (O.low HR9.out hl)
            replace HL9 := Lib.hid (show Below w.heap.size w w10 from HL9.out.trans (hl.mono HL9.out.size))
            clear HO9 hl hV3 hl3 hv3
            go_wp2_with fail
            generalize hN : q + 1 = N at *
            have hN41 : N ≤ 41 := by omega
            have HN := Lib.hid hN
            clear hN
            go_loopw [9] (fun v9 wy => ∃ z : Nat, z ≤ N ∧ v9 = .int .i64 z ∧ Hid (Low w10 wy)) (fun v _ => N - (intOf v).toNat)
            case atStart => exact ⟨0, by omega, rfl, Lib.hid (Low.refl _)⟩
            case round =>
              obtain ⟨z, hz, rfl, hLZ⟩ := hrel
              by_cases hzN : z < N
              · have hzN2 : (z : Int) < N := by omega
                obtain ⟨bA, oA, rfl, hbA, _⟩ := HOE.out.mem (by omega)
                have hrA := rangeAt_belowH (HOE.out.at_ hzN).2 hLZ.out hbA
                have hym : AE.getD z zeroVd ∈ AE := by
                  have e : AE.getD z zeroVd = AE[z]'(by omega) := by simp [List.getD, show z < AE.length by omega]
                  rw [e]
                  exact List.getElem_mem _
                obtain ⟨hyT, _, hyk, hyu⟩ := HTB2.out _ hym
                have HSM := Lib.hid (show ∀ m, m < n3 → N - n3 + m = z → (l3.getD m zeroVd).v = (AE.getD z zeroVd).v from fun m hm e => by rw [← e]; exact HSAME.out m hm)
                have HGN := Lib.hid (HGONE.out z)
                have HYN := Lib.hid (show ∀ m, m < n3 → N - n3 + m ≠ z → N - n3 ≤ z → (l3.getD m zeroVd).n ≠ (AE.getD z zeroVd).n from fun m hm hne hd e => by
                  have h1 := congrArg Vb.n (HSAME.out (z - (N - n3)) (by omega))
                  have h2 := HNUM.out m hm
                  have h3 := HNUM.out (z - (N - n3)) (by omega)
                  rw [show N - n3 + (z - (N - n3)) = z by omega] at h1
                  have h1' : (l3.getD (z - (N - n3)) zeroVd).n = (AE.getD z zeroVd).n := h1
                  rw [← h1', h2, h3] at e
                  omega)
                replace hrA : wr.rangeAt bA (oA + z * 4) (vdC (AE.getD z zeroVd)) := hrA
                generalize AE.getD z zeroVd = yy at *
                obtain ⟨yn, yf, yu, yA, yk, yc, yt⟩ := yy
                obtain ⟨y0, y1, y2, y3⟩ := ver_cells hrA
                dsimp only at y0 y1 y2 y3 hyT hyk hyu HGN HYN
                have HYT := Lib.hid hyT
                have hnw := HNW.out
                have hnow2 := hnow.2
                unfold i64ok at hyu
                clear hrA hym hyT
                by_cases hs : 0 ≤ yu ∧ 16 ≤ now - yu
                · have hs1 := hs.1
                  have hs2 := hs.2
                  clear hs HSM HGN HYN
                  go_wp2_with fail
                  go_roundw
                  case rel => exact ⟨z + 1, by omega, by go_num, hLZ⟩
                  case measure => simp [intOf]; omega
                · have hzd : N - n3 ≤ z := by
                    rcases Nat.lt_or_ge z (N - n3) with h | h
                    · exact absurd (HGN.out h) hs
                    · exact h
                  obtain ⟨m0, hm0⟩ : ∃ m0, N - n3 + m0 = z := ⟨z - (N - n3), by omega⟩
                  have hm3 : m0 < n3 := by omega
                  have HM0 := Lib.hid hm0
                  have HS2 := Lib.hid (HSM.out m0 hm3 hm0)
                  have HY2 := Lib.hid (show ∀ m, m < n3 → m ≠ m0 → (l3.getD m zeroVd).n ≠ yn from fun m hm hne => HYN.out m hm (by omega) hzd)
                  clear HSM HGN HYN hm0
                  obtain ⟨wv, rfl⟩ : ∃ wv, wv = wr := ⟨_, rfl⟩
                  have hcd : (¬ 0 ≤ yu) ∨ (0 ≤ yu ∧ ¬ 16 ≤ now - yu) := by omega
                  have HLW := hLZ
                  rcases hcd with s1 | ⟨s1, s2⟩
                  all_goals
                    go_wp2_with fail
                    go_loopw [10, 11] (fun v10 v11 wy3 => ∃ (m : Nat) (fb : Bool), m ≤ n3 ∧ v11 = .int .i64 m ∧ v10 = .bool fb ∧ Hid (m0 < m → fb = true) ∧ Hid (Low wv wy3)) (fun _ v _ => n3 - (intOf v).toNat)
                    case atStart => exact ⟨0, false, by omega, rfl, rfl, Lib.hid (fun h => by omega), Lib.hid (Low.refl _)⟩
                    case round =>
                      obtain ⟨m, fb, hm, rfl, rfl, HFB, hLX⟩ := hrel
                      have x0 := (hLX.out.cell (p := ⟨bA, oA + z * 4, none⟩) (Nat.lt_of_lt_of_le hbA hLZ.out.size)).trans y0
                      have x2 := (hLX.out.cell (p := ⟨bA, oA + z * 4 + 2, none⟩) (Nat.lt_of_lt_of_le hbA hLZ.out.size)).trans y2
                      have x3 := (hLX.out.cell (p := ⟨bA, oA + z * 4 + 3, none⟩) (Nat.lt_of_lt_of_le hbA hLZ.out.size)).trans y3
                      by_cases hmn : m < n3
                      · have hmn2 : (m : Int) < n3 := by omega
                        cases fb with
                        | true =>
                          go_wp2_with fail
                          refine wp_region_plan (.rd 0 (.rd 1 (.rd 2 (.rd 3 (.rd 4 (.rd 5 (.rd 6 (.rd 7 (.rd 8 (.rd 9 (.rd 10 (.rd 11 (.rd 12 (.rd 13 (.rd 14 (.rd 15 (.rd 16 (.rd 17 (.rd 18 (.rd 19 (.rd 20 (.rd 21 (.rd 22 (.rd 23 (.rd 24 (.rd 25 (.rd 26 (.rd 27 (.rd 28 (.rd 29 (.rd 30 (.rd 31 (.rd 32 (.rd 33 (.rd 34 (.rd 35 (.rd 36 (.act 37 (.rd 38 (.rd 39 (.rd 40 (.done)))))))))))))))))))))))))))))))))))))))))) (by kernel_rfl) (by kernel_rfl) (fun _ _ d _ _ h => by cases d <;> exact h) (by kernel_rfl) ?_
                          replace hLX : Hid (Low wv wr.drew) := Lib.hid (Below.drew hLX.out)
                          generalize wr.drew = wt at *
                          clear x0 x2 x3
                          iterate 37 (first | (refine walkP_read (v := _) rfl (by rfl) (by intro yw hyw; first | (go_simp; try rfl)) ?_; simp only [Act.put, List.setIfInBounds_toArray, List.set_cons_zero, List.set_cons_succ]) | (refine walkP_skip rfl (by rfl) ?_; simp only [Act.put, List.setIfInBounds_toArray, List.set_cons_zero, List.set_cons_succ]))
                          refine walkP_actskipH rfl (by rfl) ?_
                          simp only [Act.put, List.setIfInBounds_toArray, List.set_cons_zero, List.set_cons_succ]
                          iterate 3 (first | (refine walkP_read (v := _) rfl (by rfl) (by intro yw hyw; first | (go_simp; try rfl)) ?_; simp only [Act.put, List.setIfInBounds_toArray, List.set_cons_zero, List.set_cons_succ]) | (refine walkP_skip rfl (by rfl) ?_; simp only [Act.put, List.setIfInBounds_toArray, List.set_cons_zero, List.set_cons_succ]))
                          unfold walkP
                          go_wp2_with fail
                          go_roundw
                          case rel => exact ⟨m + 1, true, by omega, by go_num, rfl, Lib.hid (fun _ => rfl), hLX⟩
                          case measure => simp [intOf]; omega
                        | false =>
                          have hm0m : m ≤ m0 := by
                            rcases Nat.lt_or_ge m0 m with h | h
                            · exact absurd (HFB.out h) (by simp)
                            · exact h
                          obtain ⟨bB, oB, rfl, hbB, hrB, hNB, _, _, hkB⟩ := (HV3.out.low (hLZ.out.trans hLX.out)).at_ hmn
                          have HV2 := Lib.hid (show m = m0 → (l3.getD m zeroVd).v = (⟨yn, yf, yu, yA, yk, yc, yt⟩ : Vd).v from fun e => by rw [e]; exact HS2.out)
                          have HVN := Lib.hid (HY2.out m hmn)
                          generalize l3.getD m zeroVd = xx at *
                          obtain ⟨xn, xf, xu, xA, xk, xc, xt⟩ := xx
                          obtain ⟨z0, z1, z2, z3⟩ := ver_cells hrB
                          dsimp only at z0 z1 z2 z3 hNB hkB HVN
                          clear hrB
                          by_cases hmm : m = m0
                          · have hv := HV2.out hmm
                            obtain rfl : xn = yn := congrArg Vb.n hv
                            obtain rfl : xu = yu := congrArg Vb.u hv
                            obtain rfl : xt = yt := congrArg Vb.t hv
                            have e1 : (xn == xn) = true := by simp
                            have e2 : (xu == xu) = true := by simp
                            have HI := Lib.hid (fun u (hu : Low wr u) => rints_any xA yA xk xc yk yc xt xt u (by omega) (hNB.below' hu hu.size) (HYT.out.below' (show Below w.heap.size w u from HL9.out.trans ((Low.trans (Low.trans hLZ.out hLX.out) hu).mono HL9.out.size)) (by have := HL9.out.size; have := (Low.trans (Low.trans hLZ.out hLX.out) hu).size; omega)))
                            rw [show decide (xt = xt) = true by simp] at HI
                            replace hmm := Lib.hid hmm
                            clear hNB hkB hv HV2 HVN
                            go_wp2_with fail
                            refine wp_region_plan (.rd 0 (.rd 1 (.rd 2 (.rd 3 (.rd 4 (.rd 5 (.rd 6 (.rd 7 (.rd 8 (.rd 9 (.rd 10 (.rd 11 (.rd 12 (.rd 13 (.rd 14 (.rd 15 (.rd 16 (.rd 17 (.rd 18 (.rd 19 (.rd 20 (.rd 21 (.rd 22 (.rd 23 (.rd 24 (.rd 25 (.rd 26 (.rd 27 (.rd 28 (.rd 29 (.rd 30 (.rd 31 (.rd 32 (.rd 33 (.rd 34 (.rd 35 (.rd 36 (.act 37 (.rd 38 (.rd 39 (.rd 40 (.done)))))))))))))))))))))))))))))))))))))))))) (by kernel_rfl) (by kernel_rfl) (fun _ _ d _ _ h => by cases d <;> exact h) (by kernel_rfl) ?_
                            replace hLX : Hid (Low wv wr.drew) := Lib.hid (Below.drew hLX.out)
                            replace HI := Lib.hid (fun u (hu : Low wr.drew u) => HI.out u (Low.trans (show Low wr wr.drew from Below.drew (Low.refl wr)) hu))
                            replace x0 : wr.drew.cell? ⟨bA, oA + z * 4, none⟩ = _ := x0
                            replace x2 : wr.drew.cell? ⟨bA, oA + z * 4 + 2, none⟩ = _ := x2
                            replace x3 : wr.drew.cell? ⟨bA, oA + z * 4 + 3, none⟩ = _ := x3
                            replace z0 : wr.drew.cell? ⟨bB, oB + m * 4, none⟩ = _ := z0
                            replace z2 : wr.drew.cell? ⟨bB, oB + m * 4 + 2, none⟩ = _ := z2
                            replace z3 : wr.drew.cell? ⟨bB, oB + m * 4 + 3, none⟩ = _ := z3
                            replace hbB : bB < wr.drew.heap.size := hbB
                            have hbA3 : bA < wr.drew.heap.size := Nat.lt_of_lt_of_le hbA (Low.trans hLZ.out hLX.out).size
                            generalize wr.drew = wt at *
                            iterate 37 (refine walkP_read (v := _) rfl (by rfl) (by
                                intro yw hyw
                                have rx0 := (hyw.cell (p := ⟨bA, oA + z * 4, none⟩) hbA3).trans x0
                                have rx2 := (hyw.cell (p := ⟨bA, oA + z * 4 + 2, none⟩) hbA3).trans x2
                                have rx3 := (hyw.cell (p := ⟨bA, oA + z * 4 + 3, none⟩) hbA3).trans x3
                                have rz0 := (hyw.cell (p := ⟨bB, oB + m * 4, none⟩) hbB).trans z0
                                have rz2 := (hyw.cell (p := ⟨bB, oB + m * 4 + 2, none⟩) hbB).trans z2
                                have rz3 := (hyw.cell (p := ⟨bB, oB + m * 4 + 3, none⟩) hbB).trans z3
                                first
                                | (go_simp; try rfl)) ?_; simp only [Act.put, List.setIfInBounds_toArray, List.set_cons_zero, List.set_cons_succ])
                            refine walkP_act rfl (by rfl) (fun K hK => ?_)
                            go_simp
                            refine (HI.out wt (Low.refl _)).mono ?_
                            rintro e9 w11 ⟨rfl, hl9⟩
                            go_simp
                            refine hK _ _ hl9 ?_
                            clear hK K
                            replace hLX := Lib.hid (hLX.out.trans hl9)
                            clear hl9 x0 x2 x3 z0 z2 z3 HI
                            iterate 3 (refine walkP_read (v := _) rfl (by rfl) (by intro yw hyw; first | (go_simp; try rfl)) ?_; simp only [Act.put, List.setIfInBounds_toArray, List.set_cons_zero, List.set_cons_succ])
                            unfold walkP
                            go_wp2_with fail
                            go_roundw
                            case rel => exact ⟨m + 1, true, by omega, by go_num, rfl, Lib.hid (fun _ => rfl), hLX⟩
                            case measure => simp [intOf]; omega
                          · have hne := HVN.out hmm
                            have e1 : (xn == yn) = false := by simpa using hne
                            replace hne := Lib.hid hne
                            have HMM := Lib.hid (show m0 < m + 1 → false = true from fun h => absurd (show m = m0 by omega) hmm)
                            clear hNB hkB HV2 HVN
                            go_wp2_with fail
                            refine wp_region_plan (.rd 0 (.rd 1 (.rd 2 (.rd 3 (.rd 4 (.rd 5 (.rd 6 (.rd 7 (.rd 8 (.rd 9 (.rd 10 (.rd 11 (.rd 12 (.rd 13 (.rd 14 (.rd 15 (.rd 16 (.rd 17 (.rd 18 (.rd 19 (.rd 20 (.rd 21 (.rd 22 (.rd 23 (.rd 24 (.rd 25 (.rd 26 (.rd 27 (.rd 28 (.rd 29 (.rd 30 (.rd 31 (.rd 32 (.rd 33 (.rd 34 (.rd 35 (.rd 36 (.act 37 (.rd 38 (.rd 39 (.rd 40 (.done)))))))))))))))))))))))))))))))))))))))))) (by kernel_rfl) (by kernel_rfl) (fun _ _ d _ _ h => by cases d <;> exact h) (by kernel_rfl) ?_
                            replace hLX : Hid (Low wv wr.drew) := Lib.hid (Below.drew hLX.out)
                            replace x0 : wr.drew.cell? ⟨bA, oA + z * 4, none⟩ = _ := x0
                            replace x2 : wr.drew.cell? ⟨bA, oA + z * 4 + 2, none⟩ = _ := x2
                            replace x3 : wr.drew.cell? ⟨bA, oA + z * 4 + 3, none⟩ = _ := x3
                            replace z0 : wr.drew.cell? ⟨bB, oB + m * 4, none⟩ = _ := z0
                            replace z2 : wr.drew.cell? ⟨bB, oB + m * 4 + 2, none⟩ = _ := z2
                            replace z3 : wr.drew.cell? ⟨bB, oB + m * 4 + 3, none⟩ = _ := z3
                            replace hbB : bB < wr.drew.heap.size := hbB
                            have hbA3 : bA < wr.drew.heap.size := Nat.lt_of_lt_of_le hbA (Low.trans hLZ.out hLX.out).size
                            generalize wr.drew = wt at *
                            iterate 37 (first | (refine walkP_read (v := _) rfl (by rfl) (by
                                intro yw hyw
                                have rx0 := (hyw.cell (p := ⟨bA, oA + z * 4, none⟩) hbA3).trans x0
                                have rx2 := (hyw.cell (p := ⟨bA, oA + z * 4 + 2, none⟩) hbA3).trans x2
                                have rx3 := (hyw.cell (p := ⟨bA, oA + z * 4 + 3, none⟩) hbA3).trans x3
                                have rz0 := (hyw.cell (p := ⟨bB, oB + m * 4, none⟩) hbB).trans z0
                                have rz2 := (hyw.cell (p := ⟨bB, oB + m * 4 + 2, none⟩) hbB).trans z2
                                have rz3 := (hyw.cell (p := ⟨bB, oB + m * 4 + 3, none⟩) hbB).trans z3
                                first
                                | (go_simp; try rfl)) ?_; simp only [Act.put, List.setIfInBounds_toArray, List.set_cons_zero, List.set_cons_succ]) | (refine walkP_skip rfl (by rfl) ?_; simp only [Act.put, List.setIfInBounds_toArray, List.set_cons_zero, List.set_cons_succ]))
                            refine walkP_actskipH rfl (by rfl) ?_
                            simp only [Act.put, List.setIfInBounds_toArray, List.set_cons_zero, List.set_cons_succ]
                            iterate 3 (first | (refine walkP_read (v := _) rfl (by rfl) (by intro yw hyw; first | (go_simp; try rfl)) ?_; simp only [Act.put, List.setIfInBounds_toArray, List.set_cons_zero, List.set_cons_succ]) | (refine walkP_skip rfl (by rfl) ?_; simp only [Act.put, List.setIfInBounds_toArray, List.set_cons_zero, List.set_cons_succ]))
                            unfold walkP
                            go_wp2_with fail
                            go_roundw
                            case rel => exact ⟨m + 1, false, by omega, by go_num, rfl, HMM, hLX⟩
                            case measure => simp [intOf]; omega
                      · have hfb := HFB.out (by omega)
                        subst hfb
                        have hmn2 : ¬ (m : Int) < n3 := by omega
                        clear x0 x2 x3
                        go_wp2_with fail
                        go_roundw
                        case rel =>
                          first
                          | exact ⟨z + 1, by omega, by go_num, Lib.hid (HLW.out.trans hLX.out)⟩
                          | ((repeat apply Exists.intro); exact ⟨⟨z + 1, by omega, by go_num, Lib.hid (HLW.out.trans hLX.out)⟩, rfl⟩)
                        case measure => simp [intOf]; omega
              · obtain rfl : z = N := by omega
                have hzN2 : ¬ (z : Int) < z := by omega
                have HRF := Lib.hid (O.low HR9.out hLZ.out)
                have HOW := Lib.hid (HOL.out.below hLZ.out)
                have HLF := Lib.hid (show Below w.heap.size w wr from HL9.out.trans (hLZ.out.mono HL9.out.size))
                have HQN := HN.out
                go_wp2_with fail
                go_roundw
                case rel =>
                  first
                  | exact ⟨i + 1, z, A9, c9, AE, l3.map Vd.v, now, (q : Int) + 1, F', by omega, by omega, by go_num, rfl, by omega, HAP, HOW, HOF9, HTB2, HRF, HF2, HLF⟩
                  | ((repeat apply Exists.intro); exact ⟨⟨i + 1, z, A9, c9, AE, l3.map Vd.v, now, (q : Int) + 1, F', by omega, by omega, by go_num, rfl, by omega, HAP, HOW, HOF9, HTB2, HRF, HF2, HLF⟩, rfl⟩)
                case measure => simp [intOf]; omega
          · have hq1 : (0 : Int) < q := by omega
            obtain ⟨gR, cap, hvv, hbR, hltR⟩ := World.ownsRow.form HO4.out.1 (show 0 < q by omega)
            injection hvv with hD _ hcp
            subst hD
            subst hcp
            have hq2 : 0 < q := by omega
            obtain ⟨y, hy⟩ : ∃ y, y + 1 = q := ⟨q - 1, by omega⟩
            have hqy : (q : Int) - 1 = (y : Int) := by omega
            have hyq : (y : Int) < q := by omega
            have hrY := ((HO4.out.lies (Nat.le_refl _)).at_ (i := y) (by omega)).2
            have c2 : w4.cell? ⟨gR, y * 4 + 2, none⟩ = some (.int .i64 (AD.getD y zeroVd).u) := by
              have h1 := (ver_cells hrY).2.2.1
              have e1 : 0 + y * verE.k + 2 = y * 4 + 2 := by show 0 + y * 4 + 2 = _; omega
              rw [e1] at h1
              exact h1
            have f2 := World.ownsRow.frozenAt HO4.out.1 (y * 4 + 2)
            generalize (AD.getD y zeroVd).u = uu at c2
            have HOZ : Hid (OwnE verE 37 (w4.setCell ⟨gR, y * 4 + 2, none⟩ (.int .i64 now)) w.heap.size (some ⟨gR, 0, none⟩) q e (overD now AD)) := Lib.hid (by
              have h1 := HO4.out.over (show 0 < q by omega) now
              rw [show q - 1 = y by omega] at h1
              exact h1)
            have HLZ : Hid (Below w.heap.size w (w4.setCell ⟨gR, y * 4 + 2, none⟩ (.int .i64 now))) := Lib.hid (HL4.out.setCell (p := ⟨gR, y * 4 + 2, none⟩) hbR _)
            have HRZ := Lib.hid (O.keep HR4.out (w' := w4.setCell ⟨gR, y * 4 + 2, none⟩ (.int .i64 now)) (by simp) (fun k hk => Below.heap_setCell w4 _ _ k (fun e1 => HOF4.out gR rfl (by have e2 : k = gR := e1; rw [← e2]; exact hk))))
            have HOFZ := HOF4
            replace hy := Lib.hid hy
            clear HO4 HL4 HR4 HOF4 hrY
            have hO5 := HOZ.out.below (Low.alloc (w4.setCell ⟨gR, y * 4 + 2, none⟩ (.int .i64 now)) (.cells #[.int .i64 ((q : Int) + 1), .int .i64 now, .int .i64 (-1), .slice tA tk tc] 37))
            have hsz8 : (w4.setCell ⟨gR, y * 4 + 2, none⟩ (.int .i64 now)).heap.size = w4.heap.size := by simp
            have hE5 : Es verE ((w4.setCell ⟨gR, y * 4 + 2, none⟩ (.int .i64 now)).alloc (.cells #[.int .i64 ((q : Int) + 1), .int .i64 now, .int .i64 (-1), .slice tA tk tc] 37)) (w4.heap.size + 1) (some ⟨w4.heap.size, 0, none⟩) 1 [⟨(q : Int) + 1, now, -1, tA, tk, tc, t⟩] := by
              rw [← hsz8]
              exact Es.one_ (E := verE) (w4.setCell ⟨gR, y * 4 + 2, none⟩ (.int .i64 now)) 37 ⟨(q : Int) + 1, now, -1, tA, tk, tc, t⟩ trivial (Nat.lt_succ_self _)
            have HL5 := Lib.hid (show Below w.heap.size w ((w4.setCell ⟨gR, y * 4 + 2, none⟩ (.int .i64 now)).alloc (.cells #[.int .i64 ((q : Int) + 1), .int .i64 now, .int .i64 (-1), .slice tA tk tc] 37)) from HLZ.out.alloc HLZ.out.size _)
            have hbs : w.heap.size ≤ ((w4.setCell ⟨gR, y * 4 + 2, none⟩ (.int .i64 now)).alloc (.cells #[.int .i64 ((q : Int) + 1), .int .i64 now, .int .i64 (-1), .slice tA tk tc] 37)).heap.size := HL5.out.size
            go_wp2_with (at_builtin; refine wpList_append_es (E := verE) rfl (.tmp 49) (.tmp 60) _ rfl w.heap.size 37 j0 _ 48 Try.underlying44 RI.out RZ0.out RZ1.out rfl RZ2.out (some ⟨gR, 0, none⟩) q e _ rfl hO5 _ 1 1 (w4.heap.size + 1) [⟨(q : Int) + 1, now, -1, tA, tk, tc, t⟩] rfl hE5 (by omega) (by omega) hbs ?_; intro A9 c9 w9 hown hgr hob; refine Hid.out ?_)
            refine Lib.hid ?_
            have HL9 := Lib.hid (show Below w.heap.size w w9 from Below.grown HL5.out hgr hbs (fun z hz => (hO5.lt z hz).1))
            have HR9 := Lib.hid (O.keep HRZ.out (by have := hgr.size; simp at this; omega) fun k hk => (hgr.block k (by have := O.under HRZ.out k hk; simp; omega) (fun e => HOFZ.out k e.symm hk)).trans (Below.heap_alloc _ _ _ (O.under HRZ.out k hk)))
            have HO9 := Lib.hid hown
            have HOF9 := Lib.hid (show ∀ k, (Value.slice A9 (q + 1) c9).ownBlock = some k → ¬ F' k from fun k hk => by
              rcases hob with h1 | h1
              · rw [h1] at hk
                exact HOFZ.out k hk
              · rw [h1] at hk
                injection hk with hk
                intro hF
                have := O.under HRZ.out k hF
                simp at hk
                omega)
            clear hown hgr hob hO5 hE5 HL5 hbs hsz8 HOZ HLZ HRZ HOFZ
            have HTB2 := Lib.hid (show ∀ x ∈ overD now AD ++ [(⟨(q : Int) + 1, now, -1, tA, tk, tc, t⟩ : Vd)], Ns w w.heap.size x.A x.k x.t ∧ x.k ≤ x.c ∧ x.k ≤ 17592186044416 ∧ i64ok x.u from fun x hx => by
              rcases List.mem_append.1 hx with hx | hx
              · obtain ⟨y, hy, eA, ek, ec, et⟩ := overD_mem now AD x hx
                have h2 := HTB.out y hy
                rw [eA, ek, ec, et]
                exact ⟨h2.1, h2.2.1, h2.2.2.1, overD_u now AD x hx (fun z hz => (HTB.out z hz).2.2.2) hnow⟩
              · obtain rfl := List.mem_singleton.1 hx
                exact ⟨HT.out, hkc, hk44, by unfold i64ok; dsimp only; omega⟩)
            have HAM := Lib.hid (show (overD now AD ++ [(⟨(q : Int) + 1, now, -1, tA, tk, tc, t⟩ : Vd)]).map Vd.v = overH now (AD.map Vd.v) ++ [⟨((AD.map Vd.v).length : Int) + 1, now, -1, t⟩] by rw [List.map_append, overD_v, hal]; rfl)
            rw [← HAM.out] at HAP
            generalize overD now AD ++ [(⟨(q : Int) + 1, now, -1, tA, tk, tc, t⟩ : Vd)] = AE at *
            clear HAM HTB HA c0 c1
            go_wp2_with fail
            refine (O.all HR9.out HAP.out.right (by omega)).mono ?_
            rintro e5 w10 ⟨A3, n3, c3, l3, rfl, hv3, _, hV3, _, _, hl⟩
            rw [← hv3] at HAP HR9
            have hal2 : AE.length = q + 1 := HO9.out.len
            have hl3 : l3.length = n3 := hV3.len
            have hn3 : n3 ≤ 4 := by have := HAP.out.right.few; rw [List.length_map, hl3] at this; exact this
            have HV3 := Lib.hid hV3
            have hnd : n3 ≤ q + 1 := by have := HAP.out.kept.len; rw [List.length_map, List.length_map, hl3, hal2] at this; exact this
            have HSAME := Lib.hid (show ∀ j, j < n3 → (l3.getD j zeroVd).v = (AE.getD (q + 1 - n3 + j) zeroVd).v from fun j hj => by
              have h1 := HAP.out.kept.same j (by rw [List.length_map, hl3]; exact hj)
              rw [List.length_map, List.length_map, hl3, hal2, getD_vb, getD_vb] at h1
              exact h1)
            have HGONE := Lib.hid (show ∀ j, j < q + 1 - n3 → 0 ≤ (AE.getD j zeroVd).u ∧ 16 ≤ now - (AE.getD j zeroVd).u from fun j hj => by
              have h1 := HAP.out.kept.gone j (by rw [List.length_map, List.length_map, hl3, hal2]; exact hj)
              rw [getD_vb] at h1
              exact h1)
            have HNUM := Lib.hid (show ∀ j, j < n3 → (l3.getD j zeroVd).n = (q : Int) + 1 - ((n3 - 1 - j : Nat) : Int) from fun j hj => by
              have h1 := HAP.out.right.num j (by rw [List.length_map, hl3]; exact hj)
              rw [List.length_map, hl3, getD_vb] at h1
              exact h1)
            have HNW := Lib.hid (show 0 ≤ now from HAP.out.pos)
            have HOL := Lib.hid (HO9.out.below hl)
            have HOE := Lib.hid ((HO9.out.below hl).lies (Nat.le_refl _))
            replace HR9 := Lib.hid (O.low HR9.out hl)
            replace HL9 := Lib.hid (show Below w.heap.size w w10 from HL9.out.trans (hl.mono HL9.out.size))
            clear HO9 hl hV3 hl3 hv3
            go_wp2_with fail
            generalize hN : q + 1 = N at *
            have hN41 : N ≤ 41 := by omega
            have HN := Lib.hid hN
            clear hN
            go_loopw [9] (fun v9 wy => ∃ z : Nat, z ≤ N ∧ v9 = .int .i64 z ∧ Hid (Low w10 wy)) (fun v _ => N - (intOf v).toNat)
            case atStart => exact ⟨0, by omega, rfl, Lib.hid (Low.refl _)⟩
            case round =>
              obtain ⟨z, hz, rfl, hLZ⟩ := hrel
              by_cases hzN : z < N
              · have hzN2 : (z : Int) < N := by omega
                obtain ⟨bA, oA, rfl, hbA, _⟩ := HOE.out.mem (by omega)
                have hrA := rangeAt_belowH (HOE.out.at_ hzN).2 hLZ.out hbA
                have hym : AE.getD z zeroVd ∈ AE := by
                  have e : AE.getD z zeroVd = AE[z]'(by omega) := by simp [List.getD, show z < AE.length by omega]
                  rw [e]
                  exact List.getElem_mem _
                obtain ⟨hyT, _, hyk, hyu⟩ := HTB2.out _ hym
                have HSM := Lib.hid (show ∀ m, m < n3 → N - n3 + m = z → (l3.getD m zeroVd).v = (AE.getD z zeroVd).v from fun m hm e => by rw [← e]; exact HSAME.out m hm)
                have HGN := Lib.hid (HGONE.out z)
                have HYN := Lib.hid (show ∀ m, m < n3 → N - n3 + m ≠ z → N - n3 ≤ z → (l3.getD m zeroVd).n ≠ (AE.getD z zeroVd).n from fun m hm hne hd e => by
                  have h1 := congrArg Vb.n (HSAME.out (z - (N - n3)) (by omega))
                  have h2 := HNUM.out m hm
                  have h3 := HNUM.out (z - (N - n3)) (by omega)
                  rw [show N - n3 + (z - (N - n3)) = z by omega] at h1
                  have h1' : (l3.getD (z - (N - n3)) zeroVd).n = (AE.getD z zeroVd).n := h1
                  rw [← h1', h2, h3] at e
                  omega)
                replace hrA : wr.rangeAt bA (oA + z * 4) (vdC (AE.getD z zeroVd)) := hrA
                generalize AE.getD z zeroVd = yy at *
                obtain ⟨yn, yf, yu, yA, yk, yc, yt⟩ := yy
                obtain ⟨y0, y1, y2, y3⟩ := ver_cells hrA
                dsimp only at y0 y1 y2 y3 hyT hyk hyu HGN HYN
                have HYT := Lib.hid hyT
                have hnw := HNW.out
                have hnow2 := hnow.2
                unfold i64ok at hyu
                clear hrA hym hyT
                by_cases hs : 0 ≤ yu ∧ 16 ≤ now - yu
                · have hs1 := hs.1
                  have hs2 := hs.2
                  clear hs HSM HGN HYN
                  go_wp2_with fail
                  go_roundw
                  case rel => exact ⟨z + 1, by omega, by go_num, hLZ⟩
                  case measure => simp [intOf]; omega
                · have hzd : N - n3 ≤ z := by
                    rcases Nat.lt_or_ge z (N - n3) with h | h
                    · exact absurd (HGN.out h) hs
                    · exact h
                  obtain ⟨m0, hm0⟩ : ∃ m0, N - n3 + m0 = z := ⟨z - (N - n3), by omega⟩
                  have hm3 : m0 < n3 := by omega
                  have HM0 := Lib.hid hm0
                  have HS2 := Lib.hid (HSM.out m0 hm3 hm0)
                  have HY2 := Lib.hid (show ∀ m, m < n3 → m ≠ m0 → (l3.getD m zeroVd).n ≠ yn from fun m hm hne => HYN.out m hm (by omega) hzd)
                  clear HSM HGN HYN hm0
                  obtain ⟨wv, rfl⟩ : ∃ wv, wv = wr := ⟨_, rfl⟩
                  have hcd : (¬ 0 ≤ yu) ∨ (0 ≤ yu ∧ ¬ 16 ≤ now - yu) := by omega
                  have HLW := hLZ
                  rcases hcd with s1 | ⟨s1, s2⟩
                  all_goals
                    go_wp2_with fail
                    go_loopw [10, 11] (fun v10 v11 wy3 => ∃ (m : Nat) (fb : Bool), m ≤ n3 ∧ v11 = .int .i64 m ∧ v10 = .bool fb ∧ Hid (m0 < m → fb = true) ∧ Hid (Low wv wy3)) (fun _ v _ => n3 - (intOf v).toNat)
                    case atStart => exact ⟨0, false, by omega, rfl, rfl, Lib.hid (fun h => by omega), Lib.hid (Low.refl _)⟩
                    case round =>
                      obtain ⟨m, fb, hm, rfl, rfl, HFB, hLX⟩ := hrel
                      have x0 := (hLX.out.cell (p := ⟨bA, oA + z * 4, none⟩) (Nat.lt_of_lt_of_le hbA hLZ.out.size)).trans y0
                      have x2 := (hLX.out.cell (p := ⟨bA, oA + z * 4 + 2, none⟩) (Nat.lt_of_lt_of_le hbA hLZ.out.size)).trans y2
                      have x3 := (hLX.out.cell (p := ⟨bA, oA + z * 4 + 3, none⟩) (Nat.lt_of_lt_of_le hbA hLZ.out.size)).trans y3
                      by_cases hmn : m < n3
                      · have hmn2 : (m : Int) < n3 := by omega
                        cases fb with
                        | true =>
                          go_wp2_with fail
                          refine wp_region_plan (.rd 0 (.rd 1 (.rd 2 (.rd 3 (.rd 4 (.rd 5 (.rd 6 (.rd 7 (.rd 8 (.rd 9 (.rd 10 (.rd 11 (.rd 12 (.rd 13 (.rd 14 (.rd 15 (.rd 16 (.rd 17 (.rd 18 (.rd 19 (.rd 20 (.rd 21 (.rd 22 (.rd 23 (.rd 24 (.rd 25 (.rd 26 (.rd 27 (.rd 28 (.rd 29 (.rd 30 (.rd 31 (.rd 32 (.rd 33 (.rd 34 (.rd 35 (.rd 36 (.act 37 (.rd 38 (.rd 39 (.rd 40 (.done)))))))))))))))))))))))))))))))))))))))))) (by kernel_rfl) (by kernel_rfl) (fun _ _ d _ _ h => by cases d <;> exact h) (by kernel_rfl) ?_
                          replace hLX : Hid (Low wv wr.drew) := Lib.hid (Below.drew hLX.out)
                          generalize wr.drew = wt at *
                          clear x0 x2 x3
                          iterate 37 (first | (refine walkP_read (v := _) rfl (by rfl) (by intro yw hyw; first | (go_simp; try rfl)) ?_; simp only [Act.put, List.setIfInBounds_toArray, List.set_cons_zero, List.set_cons_succ]) | (refine walkP_skip rfl (by rfl) ?_; simp only [Act.put, List.setIfInBounds_toArray, List.set_cons_zero, List.set_cons_succ]))
                          refine walkP_actskipH rfl (by rfl) ?_
                          simp only [Act.put, List.setIfInBounds_toArray, List.set_cons_zero, List.set_cons_succ]
                          iterate 3 (first | (refine walkP_read (v := _) rfl (by rfl) (by intro yw hyw; first | (go_simp; try rfl)) ?_; simp only [Act.put, List.setIfInBounds_toArray, List.set_cons_zero, List.set_cons_succ]) | (refine walkP_skip rfl (by rfl) ?_; simp only [Act.put, List.setIfInBounds_toArray, List.set_cons_zero, List.set_cons_succ]))
                          unfold walkP
                          go_wp2_with fail
                          go_roundw
                          case rel => exact ⟨m + 1, true, by omega, by go_num, rfl, Lib.hid (fun _ => rfl), hLX⟩
                          case measure => simp [intOf]; omega
                        | false =>
                          have hm0m : m ≤ m0 := by
                            rcases Nat.lt_or_ge m0 m with h | h
                            · exact absurd (HFB.out h) (by simp)
                            · exact h
                          obtain ⟨bB, oB, rfl, hbB, hrB, hNB, _, _, hkB⟩ := (HV3.out.low (hLZ.out.trans hLX.out)).at_ hmn
                          have HV2 := Lib.hid (show m = m0 → (l3.getD m zeroVd).v = (⟨yn, yf, yu, yA, yk, yc, yt⟩ : Vd).v from fun e => by rw [e]; exact HS2.out)
                          have HVN := Lib.hid (HY2.out m hmn)
                          generalize l3.getD m zeroVd = xx at *
                          obtain ⟨xn, xf, xu, xA, xk, xc, xt⟩ := xx
                          obtain ⟨z0, z1, z2, z3⟩ := ver_cells hrB
                          dsimp only at z0 z1 z2 z3 hNB hkB HVN
                          clear hrB
                          by_cases hmm : m = m0
                          · have hv := HV2.out hmm
                            obtain rfl : xn = yn := congrArg Vb.n hv
                            obtain rfl : xu = yu := congrArg Vb.u hv
                            obtain rfl : xt = yt := congrArg Vb.t hv
                            have e1 : (xn == xn) = true := by simp
                            have e2 : (xu == xu) = true := by simp
                            have HI := Lib.hid (fun u (hu : Low wr u) => rints_any xA yA xk xc yk yc xt xt u (by omega) (hNB.below' hu hu.size) (HYT.out.below' (show Below w.heap.size w u from HL9.out.trans ((Low.trans (Low.trans hLZ.out hLX.out) hu).mono HL9.out.size)) (by have := HL9.out.size; have := (Low.trans (Low.trans hLZ.out hLX.out) hu).size; omega)))
                            rw [show decide (xt = xt) = true by simp] at HI
                            replace hmm := Lib.hid hmm
                            clear hNB hkB hv HV2 HVN
                            go_wp2_with fail
                            refine wp_region_plan (.rd 0 (.rd 1 (.rd 2 (.rd 3 (.rd 4 (.rd 5 (.rd 6 (.rd 7 (.rd 8 (.rd 9 (.rd 10 (.rd 11 (.rd 12 (.rd 13 (.rd 14 (.rd 15 (.rd 16 (.rd 17 (.rd 18 (.rd 19 (.rd 20 (.rd 21 (.rd 22 (.rd 23 (.rd 24 (.rd 25 (.rd 26 (.rd 27 (.rd 28 (.rd 29 (.rd 30 (.rd 31 (.rd 32 (.rd 33 (.rd 34 (.rd 35 (.rd 36 (.act 37 (.rd 38 (.rd 39 (.rd 40 (.done)))))))))))))))))))))))))))))))))))))))))) (by kernel_rfl) (by kernel_rfl) (fun _ _ d _ _ h => by cases d <;> exact h) (by kernel_rfl) ?_
                            replace hLX : Hid (Low wv wr.drew) := Lib.hid (Below.drew hLX.out)
                            replace HI := Lib.hid (fun u (hu : Low wr.drew u) => HI.out u (Low.trans (show Low wr wr.drew from Below.drew (Low.refl wr)) hu))
                            replace x0 : wr.drew.cell? ⟨bA, oA + z * 4, none⟩ = _ := x0
                            replace x2 : wr.drew.cell? ⟨bA, oA + z * 4 + 2, none⟩ = _ := x2
                            replace x3 : wr.drew.cell? ⟨bA, oA + z * 4 + 3, none⟩ = _ := x3
                            replace z0 : wr.drew.cell? ⟨bB, oB + m * 4, none⟩ = _ := z0
                            replace z2 : wr.drew.cell? ⟨bB, oB + m * 4 + 2, none⟩ = _ := z2
                            replace z3 : wr.drew.cell? ⟨bB, oB + m * 4 + 3, none⟩ = _ := z3
                            replace hbB : bB < wr.drew.heap.size := hbB
                            have hbA3 : bA < wr.drew.heap.size := Nat.lt_of_lt_of_le hbA (Low.trans hLZ.out hLX.out).size
                            generalize wr.drew = wt at *
                            iterate 37 (refine walkP_read (v := _) rfl (by rfl) (by
                                intro yw hyw
                                have rx0 := (hyw.cell (p := ⟨bA, oA + z * 4, none⟩) hbA3).trans x0
                                have rx2 := (hyw.cell (p := ⟨bA, oA + z * 4 + 2, none⟩) hbA3).trans x2
                                have rx3 := (hyw.cell (p := ⟨bA, oA + z * 4 + 3, none⟩) hbA3).trans x3
                                have rz0 := (hyw.cell (p := ⟨bB, oB + m * 4, none⟩) hbB).trans z0
                                have rz2 := (hyw.cell (p := ⟨bB, oB + m * 4 + 2, none⟩) hbB).trans z2
                                have rz3 := (hyw.cell (p := ⟨bB, oB + m * 4 + 3, none⟩) hbB).trans z3
                                first
                                | (go_simp; try rfl)) ?_; simp only [Act.put, List.setIfInBounds_toArray, List.set_cons_zero, List.set_cons_succ])
                            refine walkP_act rfl (by rfl) (fun K hK => ?_)
                            go_simp
                            refine (HI.out wt (Low.refl _)).mono ?_
                            rintro e9 w11 ⟨rfl, hl9⟩
                            go_simp
                            refine hK _ _ hl9 ?_
                            clear hK K
                            replace hLX := Lib.hid (hLX.out.trans hl9)
                            clear hl9 x0 x2 x3 z0 z2 z3 HI
                            iterate 3 (refine walkP_read (v := _) rfl (by rfl) (by intro yw hyw; first | (go_simp; try rfl)) ?_; simp only [Act.put, List.setIfInBounds_toArray, List.set_cons_zero, List.set_cons_succ])
                            unfold walkP
                            go_wp2_with fail
                            go_roundw
                            case rel => exact ⟨m + 1, true, by omega, by go_num, rfl, Lib.hid (fun _ => rfl), hLX⟩
                            case measure => simp [intOf]; omega
                          · have hne := HVN.out hmm
                            have e1 : (xn == yn) = false := by simpa using hne
                            replace hne := Lib.hid hne
                            have HMM := Lib.hid (show m0 < m + 1 → false = true from fun h => absurd (show m = m0 by omega) hmm)
                            clear hNB hkB HV2 HVN
                            go_wp2_with fail
                            refine wp_region_plan (.rd 0 (.rd 1 (.rd 2 (.rd 3 (.rd 4 (.rd 5 (.rd 6 (.rd 7 (.rd 8 (.rd 9 (.rd 10 (.rd 11 (.rd 12 (.rd 13 (.rd 14 (.rd 15 (.rd 16 (.rd 17 (.rd 18 (.rd 19 (.rd 20 (.rd 21 (.rd 22 (.rd 23 (.rd 24 (.rd 25 (.rd 26 (.rd 27 (.rd 28 (.rd 29 (.rd 30 (.rd 31 (.rd 32 (.rd 33 (.rd 34 (.rd 35 (.rd 36 (.act 37 (.rd 38 (.rd 39 (.rd 40 (.done)))))))))))))))))))))))))))))))))))))))))) (by kernel_rfl) (by kernel_rfl) (fun _ _ d _ _ h => by cases d <;> exact h) (by kernel_rfl) ?_
                            replace hLX : Hid (Low wv wr.drew) := Lib.hid (Below.drew hLX.out)
                            replace x0 : wr.drew.cell? ⟨bA, oA + z * 4, none⟩ = _ := x0
                            replace x2 : wr.drew.cell? ⟨bA, oA + z * 4 + 2, none⟩ = _ := x2
                            replace x3 : wr.drew.cell? ⟨bA, oA + z * 4 + 3, none⟩ = _ := x3
                            replace z0 : wr.drew.cell? ⟨bB, oB + m * 4, none⟩ = _ := z0
                            replace z2 : wr.drew.cell? ⟨bB, oB + m * 4 + 2, none⟩ = _ := z2
                            replace z3 : wr.drew.cell? ⟨bB, oB + m * 4 + 3, none⟩ = _ := z3
                            replace hbB : bB < wr.drew.heap.size := hbB
                            have hbA3 : bA < wr.drew.heap.size := Nat.lt_of_lt_of_le hbA (Low.trans hLZ.out hLX.out).size
                            generalize wr.drew = wt at *
                            iterate 37 (first | (refine walkP_read (v := _) rfl (by rfl) (by
                                intro yw hyw
                                have rx0 := (hyw.cell (p := ⟨bA, oA + z * 4, none⟩) hbA3).trans x0
                                have rx2 := (hyw.cell (p := ⟨bA, oA + z * 4 + 2, none⟩) hbA3).trans x2
                                have rx3 := (hyw.cell (p := ⟨bA, oA + z * 4 + 3, none⟩) hbA3).trans x3
                                have rz0 := (hyw.cell (p := ⟨bB, oB + m * 4, none⟩) hbB).trans z0
                                have rz2 := (hyw.cell (p := ⟨bB, oB + m * 4 + 2, none⟩) hbB).trans z2
                                have rz3 := (hyw.cell (p := ⟨bB, oB + m * 4 + 3, none⟩) hbB).trans z3
                                first
                                | (go_simp; try rfl)) ?_; simp only [Act.put, List.setIfInBounds_toArray, List.set_cons_zero, List.set_cons_succ]) | (refine walkP_skip rfl (by rfl) ?_; simp only [Act.put, List.setIfInBounds_toArray, List.set_cons_zero, List.set_cons_succ]))
                            refine walkP_actskipH rfl (by rfl) ?_
                            simp only [Act.put, List.setIfInBounds_toArray, List.set_cons_zero, List.set_cons_succ]
                            iterate 3 (first | (refine walkP_read (v := _) rfl (by rfl) (by intro yw hyw; first | (go_simp; try rfl)) ?_; simp only [Act.put, List.setIfInBounds_toArray, List.set_cons_zero, List.set_cons_succ]) | (refine walkP_skip rfl (by rfl) ?_; simp only [Act.put, List.setIfInBounds_toArray, List.set_cons_zero, List.set_cons_succ]))
                            unfold walkP
                            go_wp2_with fail
                            go_roundw
                            case rel => exact ⟨m + 1, false, by omega, by go_num, rfl, HMM, hLX⟩
                            case measure => simp [intOf]; omega
                      · have hfb := HFB.out (by omega)
                        subst hfb
                        have hmn2 : ¬ (m : Int) < n3 := by omega
                        clear x0 x2 x3
                        go_wp2_with fail
                        go_roundw
                        case rel =>
                          first
                          | exact ⟨z + 1, by omega, by go_num, Lib.hid (HLW.out.trans hLX.out)⟩
                          | ((repeat apply Exists.intro); exact ⟨⟨z + 1, by omega, by go_num, Lib.hid (HLW.out.trans hLX.out)⟩, rfl⟩)
                        case measure => simp [intOf]; omega
              · obtain rfl : z = N := by omega
                have hzN2 : ¬ (z : Int) < z := by omega
                have HRF := Lib.hid (O.low HR9.out hLZ.out)
                have HOW := Lib.hid (HOL.out.below hLZ.out)
                have HLF := Lib.hid (show Below w.heap.size w wr from HL9.out.trans (hLZ.out.mono HL9.out.size))
                have HQN := HN.out
                go_wp2_with fail
                go_roundw
                case rel =>
                  first
                  | exact ⟨i + 1, z, A9, c9, AE, l3.map Vd.v, now, (q : Int) + 1, F', by omega, by omega, by go_num, rfl, by omega, HAP, HOW, HOF9, HTB2, HRF, HF2, HLF⟩
                  | ((repeat apply Exists.intro); exact ⟨⟨i + 1, z, A9, c9, AE, l3.map Vd.v, now, (q : Int) + 1, F', by omega, by omega, by go_num, rfl, by omega, HAP, HOW, HOF9, HTB2, HRF, HF2, HLF⟩, rfl⟩)
                case measure => simp [intOf]; omega
        · have he2 : (mayH L now != 0) = true := by simpa using he
          rw [show nextH L (q : Int) now t = L by unfold nextH; rw [if_neg he], show lastH (q : Int) (mayH L now) = (q : Int) by unfold lastH; rw [if_neg he]] at hR2
          have HR4 := Lib.hid hR2
          generalize mayH L now = er at *
          replace he := Lib.hid he
          clear hR2 hG hO HR HL HO HOF HF c0 c1
          go_wp2_with fail
          go_roundw
          case rel =>
            first
            | exact ⟨i + 1, q, D, e, AD, L, now0, (q : Int), F', by omega, by omega, by go_num, rfl, by omega, HA, HO4, HOF4, HTB, HR4, HF2, HL4⟩
            | ((repeat apply Exists.intro); exact ⟨⟨i + 1, q, D, e, AD, L, now0, (q : Int), F', by omega, by omega, by go_num, rfl, by omega, HA, HO4, HOF4, HTB, HR4, HF2, HL4⟩, rfl⟩)
          case measure => simp [intOf]; omega
      · have h402 : ¬ (i : Int) < 40 := by omega
        go_wp2_with fail
        refine (O.all HR.out HA.out.right (by have := HA.out.many; have := HO.out.len; rw [List.length_map] at *; omega)).mono ?_
        rintro e2 w2 ⟨A3, n3, c3, l3, rfl, hv3, _, hV3, _, _, hl⟩
        have hn3 : n3 ≤ 4 := by
          have h1 := congrArg List.length hv3
          rw [List.length_map, hV3.len] at h1
          have := HA.out.right.few
          omega
        have hn4 : (n3 : Int) ≤ 4 := by omega
        replace HL := Lib.hid (show Below w.heap.size w w2 from HL.out.trans (hl.mono HL.out.size))
        clear hv3 hV3 hl
        go_wp2_with fail
        refine (HLV.out w2).mono ?_
        rintro e3 w3 ⟨rfl, hl⟩
        go_wp2_with fail
        go_ret
        exact ⟨rfl, HL.out.trans (hl.mono HL.out.size)⟩
    · have hlt2 : ¬ (i : Int) < n := by omega
      go_wp2_with fail
      refine (O.all HR.out HA.out.right (by have := HA.out.many; have := HO.out.len; rw [List.length_map] at *; omega)).mono ?_
      rintro e2 w2 ⟨A3, n3, c3, l3, rfl, hv3, _, hV3, _, _, hl⟩
      have hn3 : n3 ≤ 4 := by
        have h1 := congrArg List.length hv3
        rw [List.length_map, hV3.len] at h1
        have := HA.out.right.few
        omega
      have hn4 : (n3 : Int) ≤ 4 := by omega
      replace HL := Lib.hid (show Below w.heap.size w w2 from HL.out.trans (hl.mono HL.out.size))
      clear hv3 hV3 hl
      go_wp2_with fail
      refine (HLV.out w2).mono ?_
      rintro e3 w3 ⟨rfl, hl⟩
      go_wp2_with fail
      go_ret
      exact ⟨rfl, HL.out.trans (hl.mono HL.out.size)⟩
end Go.Proofs.Ytedldebomoplmaa
