/- Stage 21: the program's own table: SlObj and SlNone are met. No condition but what these say. -/
import Derived.Test.YtipggnjjmpacmaaSlL
set_option maxRecDepth 100000
namespace Go.Proofs.Ytipggnjjmpacmaa
open Go.RowKit
set_option linter.unusedVariables false
attribute [local go_sem] Oper.semAt_some

section
variable {w w' : World} {g b n : Nat} {cs : List (Option (Int × Int))}
/-- what Del does -/
def DelS (w : World) (g b n : Nat) (cs : List (Option (Int × Int))) (k : Int) (e : Ending) (w' : World) : Prop := e = .returned (.bool (hasS (pairsS cs) k)) ∧
    ∃ cs', SlAt w' g b n cs' ∧ StS n (homeS n) cs' ∧ (pairsS cs').Perm (outS (pairsS cs) k) ∧ Out (fun x => x = g ∨ x = b) w w'
set_option maxHeartbeats 800000 in
theorem sldel_any (h : SlAt w g b n cs) (hs : StS n (homeS n) cs) (k : Int) : Calls Try.prog 11 #[.pointer (some ⟨g, 0, none⟩), .int .i64 k] w (DelS w g b n cs k) := by
  have HF := Lib.hid (slfind_any h k)
  have hh := homeS_lt (show 0 < n from h.n1) k
  have HT := Lib.hid h
  have HS := Lib.hid hs
  clear h
  go_enter Try.func11, Try.ntmps11
  go_wp2_with fail
  refine HF.out.mono ?_
  rintro e w2 ⟨at_, there, rfl, hfo, hl⟩
  have HL := Lib.hid hl
  have T2 := Lib.hid (HT.out.low hl)
  rcases hfo with ⟨i, v, hi, rfl, rfl, hk⟩ | ⟨j, hj, rfl, rfl, hw, hf⟩ | ⟨rfl, rfl, hw⟩
  · have HAS := Lib.hid (hs.hasAt hk)
    have HM := Lib.hid (outS_out hs hk)
    have HE := Lib.hid (slempty_any T2.out hs hk rfl)
    clear hl hk HT HF hh hs
    go_wp2_with fail
    refine HE.out.mono ?_
    rintro e w3 ⟨rfl, cs', h1, h2, h3, h4⟩
    have K1 := Lib.hid h1
    have K2 := Lib.hid h2
    have K3 := Lib.hid (h3.trans HM.out)
    have K4 := Lib.hid ((Out.low HL.out).trans (F' := fun x => x = g ∨ x = b) h4 (Grow.refl _ _))
    clear h1 h2 h3 h4 HE HM
    go_wp2_with fail
    go_ret
    exact ⟨by rw [HAS.out]; rfl, cs', K1.out, K2.out, K3.out, K4.out⟩
  · have HAS := Lib.hid (hs.notFree hh hw hj hf)
    clear hl hw hf HT HF hh hs
    go_wp2_with fail
    go_ret
    exact ⟨by rw [HAS.out]; rfl, cs, T2.out, HS.out, by rw [outS_no HAS.out], Out.low HL.out⟩
  · have HAS := Lib.hid (hs.notFull hh hw).1
    clear hl hw HT HF hh hs
    go_wp2_with fail
    go_ret
    exact ⟨by rw [HAS.out]; rfl, cs, T2.out, HS.out, by rw [outS_no HAS.out], Out.low HL.out⟩
end
/-- one that is there stands at p, keeps its two blocks in F -/
def SlR (w : World) (p : Value) (F : Nat → Prop) (n : Nat) (cs : List (Option (Int × Int))) : Prop := ∃ g b, p = .pointer (some ⟨g, 0, none⟩) ∧ F = (fun x => x = g ∨ x = b) ∧ SlAt w g b n cs ∧ StS n (homeS n) cs
theorem SlAt.keep {w w' : World} {g b n : Nat} {cs : List (Option (Int × Int))} (h : SlAt w g b n cs) (hk : ∀ k, k = g ∨ k = b → w'.heap[k]? = w.heap[k]?) : SlAt w' g b n cs :=
  ⟨h.head.same (hk g (.inl rfl)), h.row.same (hk b (.inr rfl)), h.len, h.n1, h.n2⟩
theorem i64_int (i : Int) (h : 0 ≤ i) : ∃ k : Nat, i = k := ⟨i.toNat, by omega⟩
def slobj : SlObj where
  R := SlR
  under := fun ⟨g, b, _, e, h, _⟩ k hk => by
    rw [e] at hk
    rcases hk with rfl | rfl
    · exact h.head.lt
    · exact h.row.lt
  keep := fun ⟨g, b, e1, e2, h, hs⟩ _ hk => ⟨g, b, e1, e2, h.keep fun k hkk => hk k (by rw [e2]; exact hkk), hs⟩
  right := fun ⟨g, b, _, _, h, hs⟩ => ⟨⟨h.n1, h.n2⟩, hs⟩
  new := fun n w h1 h2 => (slmake_any n w h1 h2).mono fun e w' ⟨h3, h4, h5⟩ => ⟨w.heap.size + 1, fun x => x = w.heap.size + 1 ∨ x = w.heap.size, h3, ⟨_, _, rfl, rfl, h4, StS.free n _⟩, (fun k hk => by rcases hk with rfl | rfl <;> omega), h5⟩
  newNot := fun n w hn h => slmakeNot_any n w hn h
  put := fun {w p F n cs} k v ⟨g, b, e1, e2, h, hs⟩ hk hv => by
    subst e1 e2
    refine (slput_any h hs k v hk hv).mono ?_
    rintro e w' ⟨rfl, cs', h1, h2, h3, h4⟩
    exact ⟨rfl, _, cs', ⟨g, b, rfl, rfl, h1, h2⟩, h3, Grow.refl _ _, h4⟩
  del := fun {w p F n cs} k ⟨g, b, e1, e2, h, hs⟩ hk => by
    subst e1 e2
    refine (sldel_any h hs k).mono ?_
    rintro e w' ⟨rfl, cs', h1, h2, h3, h4⟩
    exact ⟨rfl, _, cs', ⟨g, b, rfl, rfl, h1, h2⟩, h3, Grow.refl _ _, h4⟩
  get := fun {w p F n cs} k ⟨g, b, e1, e2, h, hs⟩ hk => by
    subst e1 e2
    exact slget_any h hs k
  len := fun {w p F n cs} ⟨g, b, e1, e2, h, hs⟩ => by
    subst e1 e2
    refine (sllen_any h).mono ?_
    rintro e w' ⟨rfl, rfl⟩
    exact ⟨rfl, Low.refl _⟩
  cap := fun {w p F n cs} ⟨g, b, e1, e2, h, hs⟩ => by
    subst e1 e2
    refine (slcap_any h).mono ?_
    rintro e w' ⟨rfl, rfl⟩
    exact ⟨rfl, Low.refl _⟩
  home := fun {w p F n cs} k ⟨g, b, e1, e2, h, hs⟩ hk => by
    subst e1 e2
    exact slHome_any h k
  cell := fun {w p F n cs} i x ⟨g, b, e1, e2, h, hs⟩ hi => by
    subst e1 e2
    have e : cs.getD i none = some x := by simp [List.getD, hi]
    have := slcell_in h (i := i) (by have := getS_lt hi; rw [h.len] at this; exact this)
    rw [e] at this
    exact this
  cellNot := fun {w p F n cs} i ⟨g, b, e1, e2, h, hs⟩ hi hno => by
    subst e1 e2
    by_cases hin : 0 ≤ i ∧ i < n
    · obtain ⟨k, rfl⟩ := i64_int i hin.1
      have hkn : k < n := by omega
      have e : cs.getD k none = none := by
        rcases getS_some (cs := cs) (i := k) (by rw [h.len]; exact hkn) with hf | ⟨p, hp⟩
        · simp [List.getD, hf]
        · exact absurd hp (hno k p rfl)
      have := slcell_in h (i := k) hkn
      rw [e] at this
      exact this
    · exact slcell_off _ n i w h.n2 (fun w' hl => slcap_any (h.low hl)) (by omega)

theorem sltable_zero : ((Try.prog.info? 47).bind (·.zero)).map (fun z => z.cells) = some #[.nilFunc, .slice none 0 0] := by kernel_rfl
theorem slcapZ_any {w : World} {v : Value} (h : NoOb 47 w v) : Calls Try.prog 16 #[v] w fun e w' => e = .returned (.int .i64 0) ∧ w' = w := by
  rcases h with rfl | ⟨g, cs, rfl, hz, hb⟩
  · go_enter Try.func16, Try.ntmps16
    go_wp2_with fail
    go_ret
    exact ⟨rfl, rfl⟩
  · unfold IsZero at hz
    rw [sltable_zero] at hz
    injection hz with hz
    subst hz
    have hk : BlkV w 47 g [.nilFunc, .slice none 0 0] := hb
    have c1 : w.cell? ⟨g, 1, none⟩ = some (.slice none 0 0) := hk.cell 1
    clear hb hk
    go_enter Try.func16, Try.ntmps16
    go_wp2_with fail
    go_ret
    exact ⟨rfl, rfl⟩
theorem slfindZ_any {w : World} {v : Value} (h : NoOb 47 w v) (k : Int) : Calls Try.prog 19 #[v, .int .i64 k] w fun e w' => e = .returned (.tuple #[.int .i64 0, .int .i64 (-1), .bool false]) ∧ w' = w := by
  have HC := Lib.hid (slcapZ_any h)
  clear h
  go_enter_defers Try.func19, Try.ntmps19
  go_wp2_with fail
  refine HC.out.mono ?_
  rintro e w2 ⟨rfl, rfl⟩
  go_wp2_with fail
  refine door_idle (by simp [go_sem]) (slidleF _) _ (by simp [results, Try.results19, go_sem]; rfl) ?_
  exact ⟨rfl, rfl⟩
theorem slnone : SlNone where
  put := fun {w v} k x h hk hx => by
    have HF := Lib.hid (slfindZ_any h k)
    clear h
    go_enter Try.func9, Try.ntmps9
    go_wp2_with fail
    refine HF.out.mono ?_
    rintro e w2 ⟨rfl, rfl⟩
    go_wp2_with fail
    go_ret
    exact ⟨rfl, Low.refl _⟩
  del := fun {w v} k h hk => by
    have HF := Lib.hid (slfindZ_any h k)
    clear h
    go_enter Try.func11, Try.ntmps11
    go_wp2_with fail
    refine HF.out.mono ?_
    rintro e w2 ⟨rfl, rfl⟩
    go_wp2_with fail
    go_ret
    exact ⟨rfl, Low.refl _⟩
  get := fun {w v} k h hk => by
    have HF := Lib.hid (slfindZ_any h k)
    clear h
    go_enter Try.func13, Try.ntmps13
    go_wp2_with fail
    refine HF.out.mono ?_
    rintro e w2 ⟨rfl, rfl⟩
    go_wp2_with fail
    go_ret2
    exact ⟨rfl, Low.refl _⟩
  len := fun {w v} h => by
    have HC := Lib.hid (slcapZ_any h)
    clear h
    go_enter Try.func15, Try.ntmps15
    go_wp2_with fail
    refine HC.out.mono ?_
    rintro e w2 ⟨rfl, rfl⟩
    go_wp2_with fail
    go_loopw [3, 4, 7] (fun v3 v4 v7 wr => v3 = .int .i64 0 ∧ v7 = .int .i64 0 ∧ wr = w2) (fun _ _ _ _ => 0)
    case atStart => exact ⟨rfl, rfl, rfl⟩
    case round =>
      obtain ⟨rfl, rfl, rfl⟩ := hrel
      go_wp2_with fail
      go_ret
      exact ⟨rfl, Low.refl _⟩
  cap := fun {w v} h => by
    refine (slcapZ_any h).mono ?_
    rintro e w' ⟨rfl, rfl⟩
    exact ⟨rfl, Low.refl _⟩
  home := fun {w v} k h hk => by
    have HC := Lib.hid (slcapZ_any h)
    clear h
    go_enter_defers Try.func18, Try.ntmps18
    go_wp2_with fail
    refine HC.out.mono ?_
    rintro e w2 ⟨rfl, rfl⟩
    go_wp2_with fail
    refine door_idle (by simp [go_sem]) (slidleH _) _ (by simp [results, Try.results18, go_sem]; rfl) ?_
    exact ⟨rfl, Low.refl _⟩
end Go.Proofs.Ytipggnjjmpacmaa
