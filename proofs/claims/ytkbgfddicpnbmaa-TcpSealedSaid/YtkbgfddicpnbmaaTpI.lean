/- What topt.take and topt.Parse answer: the options of bytes. Condition: at most 2^47 bytes. -/
import Derived.Test.YtkbgfddicpnbmaaTpC
import Derived.Test.YtkbgfddicpnbmaaVals
import Derived.WalkMore
namespace Go.Proofs.Ytkbgfddicpnbmaa
open Go.RowKit
set_option linter.unusedVariables false

theorem opt_size : (Try.prog.info? 85).map (·.size) = some 2 := by kernel_rfl
theorem info_opt : (Try.prog.info? 85).map (fun i => (i.zero, i.size, i.bytes)) = some (some zeroOV, 2, 32) := by kernel_rfl
theorem results_cell_tmp2 {P : Program} {fn : Func} {p q r : Tmp} {ty : TypeId} (h : fn.results = #[.cell p ty, .tmp q, .tmp r]) (tmps : Array Value) (w : World) (g : Nat) (t : TypeId) (cs : Array Value) (fr : Nat × Nat) (d : TypeDesc) (u v : Value)
    (hp : tmps.getD p undef = .pointer (some ⟨g, 0, none⟩)) (hq : tmps.getD q undef = u) (hr : tmps.getD r undef = v) (hg : w.heap[g]? = some (.cells cs t fr))
    (hu : P.underlying ty = some d) (hd : (match d with | .struct _ | .array _ _ => true | _ => false) = true) (hi : (P.info? ty).map (·.size) = some cs.size) :
    (results fn tmps).run P w = .ok (.tuple #[.agg cs, u, v]) w := by
  have hp' : tmps[p]?.getD undef = .pointer (some ⟨g, 0, none⟩) := by simpa using hp
  have hq' : tmps[q]?.getD undef = u := by simpa using hq
  have hr' : tmps[r]?.getD undef = v := by simpa using hr
  simp [results, h, hp', hq', hr', asAddr, run_loadVar_row w g t ty cs fr d hg hu hd hi]

/-- an option, two numbers -/
def GivesT (w : World) (r : Ob × Nat × Int) (e : Ending) (w' : World) : Prop :=
  ∃ o : Od, e = .returned (.tuple #[.agg #[.int .i64 o.k, .slice o.A o.n o.c], .int .i64 (r.2.1 : Nat), .int .i64 r.2.2]) ∧ o.v = r.1 ∧ (∀ X : Option Nat, (∀ x, X = some x → x < w.heap.size) → o.off w' X) ∧ Below w.heap.size w w'
theorem ret_take {w w' : World} {tmps : Array Value} {df : List Deferred} {g : Nat} {o : Od} {r : Ob × Nat × Int} (hp : tmps.getD 2 undef = .pointer (some ⟨g, 0, none⟩)) (hq : tmps.getD 3 undef = .int .i64 (r.2.1 : Nat)) (hr : tmps.getD 4 undef = .int .i64 r.2.2)
    (hb : BlkV w' 85 g [.int .i64 o.k, .slice o.A o.n o.c]) (hv : o.v = r.1) (ho : ∀ X : Option Nat, (∀ x, X = some x → x < w.heap.size) → o.off w' X) (hB : Below w.heap.size w w') (hdf : df = []) : bodyPost Try.prog Try.f55 (GivesT w r) .ret ⟨tmps, df⟩ w' := by
  subst hdf
  exact bodyPost_ret (results_cell_tmp2 Try.results55 _ _ g _ _ _ _ _ _ hp hq hr hb Try.underlying85 rfl (by rw [opt_size]; rfl)) rfl ⟨o, rfl, hv, ho, hB⟩

set_option maxHeartbeats 800000 in
theorem take_any (A : Option Addr) (n c : Nat) (xs : List Int) (w : World) (hn : n ≤ 140737488355328) (h0 : 0 < n) (hc : n ≤ c) (hc2 : c ≤ 9223372036854775807) (hb : Bs w w.heap.size A n xs) :
    Calls Try.prog 55 #[.slice A n c] w (GivesT w (takeO xs)) := by
  obtain ⟨b, o, rfl, hbl, hcc⟩ := hb.mem h0
  have q1 := hcc 0 h0
  have hn1 := hb.nonneg 0
  have hn2 := hb.nonneg 1
  have hl := Low.alloc w (.cells #[.int .i64 0, .slice none 0 0] 85)
  have c1 : (w.alloc (.cells #[.int .i64 0, .slice none 0 0] 85)).cell? ⟨b, o, none⟩ = some (.int .u8 (xs.getD 0 0)) := (Below.cell hl (p := ⟨b, o, none⟩) hbl).trans q1
  have hlen := hb.len
  have HB := Lib.hid hb
  have HL := Lib.hid hl
  clear q1 hl
  by_cases hk : xs.getD 0 0 = 1
  · have HT := Lib.hid (show takeO xs = ((1, []), 1, 0) by unfold takeO; rw [if_pos hk])
    rw [hk] at c1
    clear hcc hb hn1 hn2 hk
    go_enter Try.func55, Try.ntmps55
    go_wp2_with fail
    rw [HT.out]
    exact ret_take (o := ⟨1, none, 0, 0, []⟩) rfl rfl rfl (BlkV.new w _ [.int .i64 1, .slice none 0 0]) rfl (fun X _ => Od.off.nul _ _ _ _ (by unfold i64ok; omega)) (Low.alloc _ _) rfl
  · by_cases h2 : n < 2
    · have HT := Lib.hid (show takeO xs = (zeroB, 0, 3) by unfold takeO; rw [if_neg hk, if_pos (by omega)])
      have hkb : (xs.getD 0 0 == 1) = false := by simpa using hk
      generalize xs.getD 0 0 = x0 at *
      clear hcc hb hn2 hk
      go_enter Try.func55, Try.ntmps55
      go_wp2_with fail
      rw [HT.out]
      exact ret_take (o := zeroO) rfl rfl rfl (BlkV.new w _ [.int .i64 0, .slice none 0 0]) rfl (fun X _ => Od.off.nul _ _ _ _ (by unfold i64ok; omega)) (Low.alloc _ _) rfl
    · have d1 : (w.alloc (.cells #[.int .i64 0, .slice none 0 0] 85)).cell? ⟨b, o + 1, none⟩ = some (.int .u8 (xs.getD 1 0)) := (Below.cell HL.out (p := ⟨b, o + 1, none⟩) hbl).trans (hcc 1 (by omega))
      have hkb : (xs.getD 0 0 == 1) = false := by simpa using hk
      by_cases h3 : xs.getD 1 0 < 2
      · have HT := Lib.hid (show takeO xs = (zeroB, 0, 5) by unfold takeO; rw [if_neg hk, if_neg (by omega), if_pos h3])
        generalize xs.getD 0 0 = x0 at *
        generalize xs.getD 1 0 = x1 at *
        clear hcc hb hk
        go_enter Try.func55, Try.ntmps55
        go_wp2_with fail
        rw [HT.out]
        exact ret_take (o := zeroO) rfl rfl rfl (BlkV.new w _ [.int .i64 0, .slice none 0 0]) rfl (fun X _ => Od.off.nul _ _ _ _ (by unfold i64ok; omega)) (Low.alloc _ _) rfl
      · have hb2 := hb.below' HL.out HL.out.size
        have hr0 := BlkV.new w 85 [.int .i64 0, .slice none 0 0]
        by_cases h4 : (n : Int) < xs.getD 1 0
        · have HT := Lib.hid (show takeO xs = (zeroB, 0, 3) by unfold takeO; rw [if_neg hk, if_neg (by omega), if_neg h3, if_pos (by omega)])
          generalize xs.getD 0 0 = x0 at *
          generalize xs.getD 1 0 = x1 at *
          have HR := Lib.hid hr0
          have HB2 := Lib.hid hb2
          clear hcc hb hk hb2 hr0
          go_enter Try.func55, Try.ntmps55
          go_wp2_with fail
          refine (cut_no _ n c 2 (x1 - 2) _ hn (by omega) (by omega)).mono ?_
          rintro e w1 ⟨rfl, rfl⟩
          go_wp2_with fail
          rw [HT.out]
          exact ret_take (o := zeroO) rfl rfl rfl (BlkV.new w _ [.int .i64 0, .slice none 0 0]) rfl (fun X _ => Od.off.nul _ _ _ _ (by unfold i64ok; omega)) (Low.alloc _ _) rfl
        · obtain ⟨s, hs⟩ : ∃ s : Nat, xs.getD 1 0 = ((s + 2 : Nat) : Int) := ⟨(xs.getD 1 0).toNat - 2, by omega⟩
          have hs2 : (xs.getD 1 0).toNat - 2 = s := by omega
          have hs3 : (xs.getD 1 0).toNat = s + 2 := by omega
          have hsb : s + 2 ≤ 255 := by omega
          have hsn : s + 2 ≤ n := by omega
          cases hf : fitsO (xs.getD 0 0) s
          · have HT := Lib.hid (show takeO xs = (zeroB, 0, 5) by unfold takeO; rw [if_neg hk, if_neg (by omega), if_neg h3, if_neg (by omega), hs2, if_pos hf])
            generalize hx0 : xs.getD 0 0 = x0 at *
            rw [hs] at d1
            have HR := Lib.hid hr0
            have HB2 := Lib.hid hb2
            clear hcc hb hk hb2 hr0 hs hs2 hs3 h3 h4 hn2 hx0
            go_enter Try.func55, Try.ntmps55
            go_wp2_with fail
            refine (cut_yes _ n c 2 _ 2 s xs _ hn hc hc2 HB2.out rfl (by omega) (by omega)).mono ?_
            rintro e w1 ⟨v, rfl, g, rfl, hg, hblk, hl1, ha1, hB1⟩
            have HK := Lib.hid hblk
            have HG := Lib.hid hg
            have HA := Lib.hid (And.intro hl1 ha1)
            clear hblk hg hl1 ha1 c1 d1
            go_wp2_with fail
            refine (fits_any x0 s _ (by unfold i64ok; omega) (by omega)).mono ?_
            rintro e w2 ⟨rfl, hB2⟩
            rw [hf]
            have hr2 : BlkV w2 85 w.heap.size [.int .i64 0, .slice none 0 0] := BlkV.below (HR.out.below hB1 (by simp)) hB2 (Nat.lt_of_lt_of_le (by simp) hB1.size)
            have r0 : w2.cell? ⟨w.heap.size, 0, none⟩ = some (.int .i64 0) := by rw [hr2.cell 0]; rfl
            have r1 : w2.cell? ⟨w.heap.size, 1, none⟩ = some (.slice none 0 0) := by rw [hr2.cell 1]; rfl
            have f0 := hr2.frozen 0
            have f1 := hr2.frozen 1
            have HLW := Lib.hid (HL.out.trans (Low.trans hB1 hB2))
            have HR2 := Lib.hid hr2
            have HBB := Lib.hid (And.intro hB1 hB2)
            clear hr2 hB1 hB2
            go_wp2_with fail
            rw [HT.out]
            exact ret_take (o := zeroO) rfl rfl rfl ((HR2.out.set_ 0 _).set_ 1 _) rfl (fun X _ => Od.off.nul _ _ _ _ (by unfold i64ok; omega)) ((HLW.out.setCell (p := ⟨w.heap.size, 0, none⟩) (Nat.le_refl _) _).setCell (p := ⟨w.heap.size, 1, none⟩) (Nat.le_refl _) _) rfl
          · have HT := Lib.hid (show takeO xs = ((xs.getD 0 0, (xs.drop 2).take s), s + 2, 0) by unfold takeO; rw [if_neg hk, if_neg (by omega), if_neg h3, if_neg (by omega), hs2, if_neg (by rw [hf]; simp), hs3])
            generalize hx0 : xs.getD 0 0 = x0 at *
            rw [hs] at d1
            have HR := Lib.hid hr0
            have HB2 := Lib.hid hb2
            clear hcc hb hk hb2 hr0 hs hs2 hs3 h3 h4 hn2 hx0
            go_enter Try.func55, Try.ntmps55
            go_wp2_with fail
            refine (cut_yes _ n c 2 _ 2 s xs _ hn hc hc2 HB2.out rfl (by omega) (by omega)).mono ?_
            rintro e w1 ⟨v, rfl, g, rfl, hg, hblk, hl1, ha1, hB1⟩
            have HK := Lib.hid hblk
            have HG := Lib.hid hg
            have HA := Lib.hid (And.intro hl1 ha1)
            clear hblk hg hl1 ha1 c1 d1
            go_wp2_with fail
            refine (fits_any x0 s _ (by unfold i64ok; omega) (by omega)).mono ?_
            rintro e w2 ⟨rfl, hB2⟩
            rw [hf]
            have hr2 : BlkV w2 85 w.heap.size [.int .i64 0, .slice none 0 0] := BlkV.below (HR.out.below hB1 (by simp)) hB2 (Nat.lt_of_lt_of_le (by simp) hB1.size)
            have r0 : w2.cell? ⟨w.heap.size, 0, none⟩ = some (.int .i64 0) := by rw [hr2.cell 0]; rfl
            have r1 : w2.cell? ⟨w.heap.size, 1, none⟩ = some (.slice none 0 0) := by rw [hr2.cell 1]; rfl
            have f0 := hr2.frozen 0
            have f1 := hr2.frozen 1
            have HLW := Lib.hid (HL.out.trans (Low.trans hB1 hB2))
            have HR2 := Lib.hid hr2
            have HBB := Lib.hid (And.intro hB1 hB2)
            clear hr2 hB1 hB2
            go_wp2_with fail
            rw [HT.out]
            have hgw : w.heap.size < g := by have := HG.out; simp at this; omega
            have hk2 : Blk w2 5 g ((xs.drop 2).take s) := HK.out.below HBB.out.2 HK.out.lt
            have hk3 := (hk2.far (p := ⟨w.heap.size, 0, none⟩) (by show g ≠ w.heap.size; omega) (.int .i64 x0)).far (p := ⟨w.heap.size, 1, none⟩) (by show g ≠ w.heap.size; omega) (.slice (some ⟨g, 0, none⟩) s s)
            exact ret_take (o := ⟨x0, some ⟨g, 0, none⟩, s, s, (xs.drop 2).take s⟩) rfl rfl rfl ((HR2.out.set_ 0 _).set_ 1 _) rfl (fun X hX => Od.off.new (w := w) (by unfold i64ok; omega) (by omega) HA.out.1 HA.out.2 hk3 (Nat.le_of_lt hgw) hX) ((HLW.out.setCell (p := ⟨w.heap.size, 0, none⟩) (Nat.le_refl _) _).setCell (p := ⟨w.heap.size, 1, none⟩) (Nat.le_refl _) _) rfl
end Go.Proofs.Ytkbgfddicpnbmaa
