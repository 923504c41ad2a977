/- Stage 20: what the program's own history tells: HiObj and HiNone are met. Conditions: as those say. -/
import Derived.Test.YtedldebomoplmaaHiP
import Derived.Test.YtedldebomoplmaaHiI
set_option maxRecDepth 100000
namespace Go.Proofs.Ytedldebomoplmaa
open Go.RowKit
set_option linter.unusedVariables false

theorem hist_zero : ((Try.prog.info? 51).bind (·.zero)).map (fun z => z.cells) = some #[.bool false, .slice none 0 0] := by kernel_rfl
theorem hist_size : (Try.prog.info? 51).map (·.size) = some 2 := by kernel_rfl
set_option maxHeartbeats 800000 in
theorem hmake_any (w : World) : Calls Try.prog 6 #[] w fun e w' => e = .returned (.pointer (some ⟨w.heap.size, 0, none⟩)) ∧ BlkV w' 51 w.heap.size [.bool true, .slice none 0 0] ∧ w'.heap.size = w.heap.size + 1 ∧ Low w w' := by
  have HK := Lib.hid (BlkV.new w 51 [.bool true, .slice none 0 0])
  have HL := Lib.hid (Low.alloc w (.cells #[.bool true, .slice none 0 0] 51))
  go_enter Try.func6, Try.ntmps6
  go_wp2_with fail
  go_ret
  exact ⟨rfl, HK.out, by simp, HL.out⟩
/-- R: it stands at p, keeps its memory in F -/
def HiR (w : World) (p : Value) (F : Nat → Prop) (l : List Vb) (last : Int) : Prop := ∃ g A n c ld, p = .pointer (some ⟨g, 0, none⟩) ∧ HiAt w F g A n c ld ∧ ld.map Vd.v = l ∧ (ld = [] → last = 0)
theorem lastV_tab {w : World} {F : Nat → Prop} {g n c : Nat} {A : Option Addr} {ld : List Vd} (h : HiAt w F g A n c ld) : Ns w w.heap.size (lastV ld).A (lastV ld).k (lastV ld).t ∧ (lastV ld).k ≤ 17592186044416 := by
  unfold lastV
  by_cases hi : ld.length - 1 < ld.length
  · have e : ld.getD (ld.length - 1) zeroVd = ld[ld.length - 1] := by simp [List.getD, hi]
    rw [e]
    have := h.tab _ (List.getElem_mem hi)
    exact ⟨this.1, this.2.2⟩
  · have e : ld.getD (ld.length - 1) zeroVd = zeroVd := by simp [List.getD, List.getElem?_eq_none (Nat.le_of_not_lt hi)]
    rw [e]
    exact ⟨Ns.nil _ _ _, by decide⟩
theorem TabsH.free_ {w : World} {base : Nat} {l : List Vd} (h : TabsH w base l) : ∀ x ∈ l, IFrom base x.A x.k ∧ FreeN w x.A x.k := fun x hx => ⟨(h x hx).1.fromI, fun b o j e _ => (h x hx).1.free_ b o j e⟩

def hiobj : HiObj where
  R := HiR
  under := fun ⟨_, _, _, _, _, _, h, _⟩ => h.under
  keep := fun ⟨g, A, n, c, ld, e, h, hl, h0⟩ hz hk => ⟨g, A, n, c, ld, e, h.keep hz hk, hl, h0⟩
  new := fun w => (hmake_any w).mono fun e w' ⟨h1, h2, h3, h4⟩ => ⟨w.heap.size, fun k => k = w.heap.size, h1, ⟨w.heap.size, none, 0, 0, [], rfl, ⟨h2, Nat.le_refl _, Es.nil _ _ _, (fun x hx => by cases hx), (fun k hk => by subst hk; exact h2.lt), rfl, (fun h => absurd h (by omega)), (fun x hx => by cases hx)⟩, rfl, fun _ => rfl⟩, (fun k hk => by subst hk; exact Nat.le_refl _), h4⟩
  push := fun {w p F l last} now A n c t hR hr hlast hnow ht hnc hn => by
    obtain ⟨g, A0, n0, c0, ld, rfl, hh, rfl, h0⟩ := hR
    refine (hpush_any last now A n c t hh hr h0 hlast hnow ht hn).mono ?_
    rintro e w' ⟨h1, F', A', n', c', ld', h2, h3, h4, h5⟩
    refine ⟨h1, F', ⟨g, A', n', c', ld', rfl, h2, h3, fun e => ?_⟩, h4, h5⟩
    rw [e] at h3
    unfold nextH at h3
    by_cases hm : mayH (ld.map Vd.v) now = 0
    · rw [if_pos hm, pushH_eq] at h3
      simp at h3
    · rw [if_neg hm] at h3
      have e2 : ld = [] := by cases ld <;> simp_all
      unfold lastH
      rw [if_neg hm]
      exact h0 e2
  free := fun {w p F l last} now hR hr hlast hnow => by
    obtain ⟨g, A0, n0, c0, ld, rfl, hh, rfl, h0⟩ := hR
    exact hfree_gen _ now _ w (hwrongM_any last now hh hr hnow)
  newest := fun {w p F l last} hR hr hlast => by
    obtain ⟨g, A0, n0, c0, ld, rfl, hh, rfl, h0⟩ := hR
    have h4 : n0 ≤ 4 := by have := hr.few; rw [List.length_map, hh.row.len] at this; exact this
    obtain ⟨t1, t2⟩ := lastV_tab hh
    refine (hnew2_any _ A0 n0 c0 ld w (by omega) hh.see hh.row t1 t2).mono ?_
    rintro e w' ⟨A', c', rfl, hl⟩
    refine ⟨⟨(lastV ld).n, (lastV ld).f, (lastV ld).u, A', (lastV ld).k, c', (lastV ld).t⟩, by rw [List.length_map, hh.row.len], fun _ => ?_, hl⟩
    rw [getD_vb, List.length_map]
    rfl
  all := fun {w p F l last} hR hr hlast => by
    obtain ⟨g, A0, n0, c0, ld, rfl, hh, rfl, h0⟩ := hR
    have h4 : n0 ≤ 4 := by have := hr.few; rw [List.length_map, hh.row.len] at this; exact this
    refine (hall_any _ A0 n0 c0 ld w (by omega) hh.see hh.row (fun x hx => ⟨(hh.tab x hx).1, (hh.tab x hx).2.2⟩)).mono ?_
    rintro e w' ⟨D, d, l', rfl, hO, hm, hT, hl⟩
    exact ⟨D, n0, d, l', rfl, hm, hO.cap.1, ⟨hO.lies (Nat.le_refl _), offA.none_ _ _, fun x hx => ⟨(hT x hx).1.bs (Nat.le_refl _), offA.none_ _ _, (hT x hx).1.cap.1, (hT x hx).2⟩⟩, hO.from_, hT.free_, hl⟩
  pairs := fun {w p F l last} H hR hr hlast ht hH => by
    obtain ⟨g, A0, n0, c0, ld, rfl, hh, rfl, h0⟩ := hR
    have h4 : n0 ≤ 4 := by have := hr.few; rw [List.length_map, hh.row.len] at this; exact this
    refine (hpairs_any _ A0 n0 c0 ld H w (by omega) hH hh.see hh.row (fun x hx => ⟨(hh.tab x hx).1, (hh.tab x hx).2.1, by
      have h1 := ht x.v (List.mem_map.2 ⟨x, hx, rfl⟩)
      have h2 := (hh.tab x hx).1.len
      have h3 : x.v.t = x.t := rfl
      rw [h3] at h1
      omega⟩)).mono ?_
    rintro e w' ⟨D, d, rfl, hO, hl⟩
    have e1 : pairsH (ld.map Vd.v) H = ld.map fun v => twoH v H := by unfold pairsH; rw [List.map_map]; rfl
    have e2 : (pairsH (ld.map Vd.v) H).length = n0 := by rw [e1, List.length_map, hh.row.len]
    unfold GivesTw
    rw [e2, e1]
    exact ⟨D, d, rfl, hO.lies (Nat.le_refl _), hO.from_, hl⟩

theorem noHi_see {w : World} {v : Value} (h : NoHi w v) : ∃ p, v = .pointer p ∧ SeeH w w.heap.size (.pointer p) none 0 0 ∧ MadeH w w.heap.size p false := by
  rcases h with rfl | ⟨g, cs, rfl, hz, hb⟩
  · exact ⟨none, rfl, .inl ⟨rfl, rfl⟩, .inl ⟨rfl, rfl⟩⟩
  · unfold IsZ at hz
    rw [hist_zero] at hz
    injection hz with hz
    subst hz
    have hk : BlkV w 51 g [.bool false, .slice none 0 0] := hb
    exact ⟨_, rfl, .inr ⟨g, rfl, hk.lt, hk.cell 1⟩, .inr ⟨g, rfl, hk.lt, hk.cell 0⟩⟩
theorem hinone : HiNone where
  push := fun {w v} now h hn => by
    obtain ⟨p, rfl, _, hm⟩ := noHi_see h
    exact hpushZ_any p now none 0 0 w hm
  free := fun {w v} now h hn => by
    obtain ⟨p, rfl, _, hm⟩ := noHi_see h
    exact hfree_gen p now 1 w (hwrongZ_any p now w hm)
  newest := fun {w v} h => by
    obtain ⟨p, rfl, hs, _⟩ := noHi_see h
    refine (hnew2_any p none 0 0 [] w (by omega) hs (Es.nil _ _ _) (Ns.nil _ _ _) (by decide)).mono ?_
    rintro e w' ⟨A', c', rfl, hl⟩
    exact ⟨_, rfl, hl⟩
  all := fun {w v} h => by
    obtain ⟨p, rfl, hs, _⟩ := noHi_see h
    refine (hall_any p none 0 0 [] w (by omega) hs (Es.nil _ _ _) (fun x hx => by cases hx)).mono ?_
    rintro e w' ⟨D, d, l', rfl, _, _, _, hl⟩
    exact ⟨D, d, rfl, hl⟩
  pairs := fun {w v} H h hH => by
    obtain ⟨p, rfl, hs, _⟩ := noHi_see h
    refine (hpairs_any p none 0 0 [] H w (by omega) hH hs (Es.nil _ _ _) (fun x hx => by cases hx)).mono ?_
    rintro e w' ⟨D, d, rfl, _, hl⟩
    exact ⟨D, d, rfl, hl⟩
end Go.Proofs.Ytedldebomoplmaa
