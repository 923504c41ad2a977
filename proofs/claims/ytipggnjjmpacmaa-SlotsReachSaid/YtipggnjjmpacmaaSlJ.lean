/- Stage 21: the program's own table: where a key's way begins, and where it ends; one that no call made. No condition but that it lies so. -/
import Derived.Test.YtipggnjjmpacmaaSlI
import Derived.Test.YtipggnjjmpacmaaNoOb
import Derived.BigQuiet
set_option maxRecDepth 100000
namespace Go.Proofs.Ytipggnjjmpacmaa
open Go.RowKit
set_option linter.unusedVariables false
attribute [local go_sem] Oper.semAt_some

theorem slidleF (w : World) : CallsD Try.prog 23 #[] .returning w fun e u' w' => e = .returned (.tuple #[]) ∧ u' = .returning ∧ w' = w := by
  refine callsD_of_wpS Try.func23 rfl fun c₀ cs hu => ?_
  apply wpS_region
  simp [wpOpsS, go_sem, recoverD, hu, Try.ntmps23]
  cases c₀
  simp_all [bodyPostS, results, Try.results23, go_sem]
theorem slidleH (w : World) : CallsD Try.prog 21 #[] .returning w fun e u' w' => e = .returned (.tuple #[]) ∧ u' = .returning ∧ w' = w := by
  refine callsD_of_wpS Try.func21 rfl fun c₀ cs hu => ?_
  apply wpS_region
  simp [wpOpsS, go_sem, recoverD, hu, Try.ntmps21]
  cases c₀
  simp_all [bodyPostS, results, Try.results21, go_sem]
section
variable {P : Program} {F : FuncId} {fn : Func} {tmps : Array Value} {R : Ending → World → Prop} {w : World}
/-- a call that defers one closure, which does nothing, is left by a return -/
theorem door_idle (hi : (invoke (.fn (.func F) #[]) #[]).run P w = .ok (.enter F #[]) w)
    (hc : CallsD P F #[] .returning w fun e u' w' => e = .returned (.tuple #[]) ∧ u' = .returning ∧ w' = w)
    (v : Value) (hr : (results fn tmps).run P w = .ok v w) (hR : R (.returned v) w) :
    bodyPostD P fn R .ret ⟨tmps, [{ target := .fn (.func F) #[], args := #[] }]⟩ w := by
  show Leaves P fn tmps R _ .returning w
  refine leaves_cons (by simp) hi (hc.mono ?_)
  rintro e u' w' ⟨rfl, rfl, rfl⟩
  exact ⟨v, hr, hR⟩
end
section
variable {w w' : World} {g b n : Nat} {cs : List (Option (Int × Int))}
set_option maxHeartbeats 800000 in
theorem slHome_any (h : SlAt w g b n cs) (k : Int) : Calls Try.prog 18 #[.pointer (some ⟨g, 0, none⟩), .int .i64 k] w fun e w' => e = .returned (.int .i64 (homeS n k : Nat)) ∧ Low w w' := by
  have HC := Lib.hid (slcap_any h)
  have HH := Lib.hid (slhome_any h k)
  have hz : ((n : Int) == 0) = false := by have := h.n1; simp; omega
  clear h
  generalize homeS n k = r at *
  go_enter_defers Try.func18, Try.ntmps18
  go_wp2_with fail
  refine HC.out.mono ?_
  rintro e w2 ⟨rfl, rfl⟩
  go_wp2_with fail
  refine HH.out.mono ?_
  rintro e w3 ⟨rfl, hl⟩
  have HL := Lib.hid hl
  clear hl HH HC
  go_wp2_with fail
  refine door_idle (by simp [go_sem]) (slidleH w3) _ (by simp [results, Try.results18, go_sem]; rfl) ?_
  exact ⟨rfl, HL.out⟩
/-- where a key's way ends: where it lies; at a free cell; nowhere -/
def FoundS (n : Nat) (cs : List (Option (Int × Int))) (k : Int) (at_ : Int) (there : Bool) : Prop :=
  (∃ (i : Nat) (v : Int), i < n ∧ at_ = i ∧ there = true ∧ cs[i]? = some (some (k, v))) ∨
  (∃ j : Nat, j < n ∧ at_ = ((homeS n k + j) % n : Nat) ∧ there = false ∧ WayS n (homeS n) cs k j ∧ cs[(homeS n k + j) % n]? = some none) ∨
  (at_ = -1 ∧ there = false ∧ WayS n (homeS n) cs k n)
/-- what find tells -/
def GivesFd (n : Nat) (cs : List (Option (Int × Int))) (k : Int) (w : World) (e : Ending) (w' : World) : Prop := ∃ (at_ : Int) (there : Bool), e = .returned (.tuple #[.int .i64 (homeS n k : Nat), .int .i64 at_, .bool there]) ∧ FoundS n cs k at_ there ∧ Low w w'
set_option maxHeartbeats 3200000 in
set_option maxRecDepth 100000 in
theorem slfind_any (h : SlAt w g b n cs) (k : Int) : Calls Try.prog 19 #[.pointer (some ⟨g, 0, none⟩), .int .i64 k] w (GivesFd n cs k w) := by
  have HC := Lib.hid (slcap_any h)
  have HH := Lib.hid (slhome_any h k)
  have hz : ((n : Int) == 0) = false := by have := h.n1; simp; omega
  have HT := Lib.hid h
  have hr := homeS_lt (show 0 < n from h.n1) k
  have hn256 := h.n2
  obtain ⟨r, hrr⟩ : ∃ r, r = homeS n k := ⟨_, rfl⟩
  rw [← hrr] at HH hr
  have HRR := Lib.hid hrr
  clear h hrr
  go_enter_defers Try.func19, Try.ntmps19
  go_wp2_with fail
  refine HC.out.mono ?_
  rintro e w2 ⟨rfl, rfl⟩
  go_wp2_with fail
  refine HH.out.mono ?_
  rintro e w3 ⟨rfl, hl⟩
  have HL := Lib.hid hl
  replace HT := Lib.hid (HT.out.low hl)
  have c1 : w3.cell? ⟨g, 1, none⟩ = some (.slice (some ⟨b, 0, none⟩) n n) := HT.out.head.cell 1
  clear hl HH HC
  go_wp2_with fail
  go_loopw [4, 7, 8, 24] (fun v4 v7 v8 v24 wr => ∃ j : Nat, j ≤ n ∧ v4 = .int .i64 r ∧ v7 = .int .i64 ((r + j) % n : Nat) ∧ v24 = .int .i64 j ∧ wr = w3 ∧ Hid (WayS n (homeS n) cs k j)) (fun _ _ _ v24 _ => n - (intOf v24).toNat)
  case atStart => exact ⟨0, Nat.zero_le _, rfl, by rw [Nat.add_zero, Nat.mod_eq_of_lt hr], rfl, rfl, Lib.hid WayS.zero⟩
  case round =>
    obtain ⟨j, hj, rfl, rfl, rfl, rfl, HW⟩ := hrel
    by_cases hlt : j < n
    · have hlt2 : (j : Int) < n := by omega
      have hi := Nat.mod_lt (r + j) (show 0 < n by omega)
      rcases getS_some (cs := cs) (i := (r + j) % n) (by rw [HT.out.len]; exact hi) with hf | ⟨p, hp⟩
      · obtain ⟨q0, _, _, _⟩ := HT.out.free hf
        have HFO := Lib.hid (show FoundS n cs k ((r + j) % n : Nat) false from .inr (.inl ⟨j, hlt, by rw [← HRR.out], rfl, HW.out, by rw [← HRR.out]; exact hf⟩))
        clear HW hf
        generalize (r + j) % n = i at *
        have hi2 : (i : Int) < n := by omega
        go_wp2_with fail
        go_quiet (fail)
        go_wp2_with fail
        refine door_idle (by simp [go_sem]) (slidleF _) _ (by simp [results, Try.results19, go_sem]; rfl) ?_
        exact ⟨_, _, by rw [HRR.out], HFO.out, below_drewN HL.out _⟩
      · obtain ⟨q0, q1, _, _⟩ := HT.out.key hp
        obtain ⟨x, v⟩ := p
        dsimp only at q1
        by_cases hx : x = k
        · subst hx
          have HFO := Lib.hid (show FoundS n cs x ((r + j) % n : Nat) true from .inl ⟨_, v, hi, rfl, rfl, hp⟩)
          clear HW hp
          generalize (r + j) % n = i at *
          have hi2 : (i : Int) < n := by omega
          go_wp2_with fail
          go_quiet (fail)
          go_wp2_with fail
          refine door_idle (by simp [go_sem]) (slidleF _) _ (by simp [results, Try.results19, go_sem]; rfl) ?_
          exact ⟨_, _, by rw [HRR.out], HFO.out, below_drewN HL.out _⟩
        · have HW2 := Lib.hid (HW.out.succ (q := (x, v)) (by rw [← HRR.out]; exact hp) hx)
          have hb : (x == k) = false := by simpa using hx
          have HNX := Lib.hid (fun u => slnext_any (w := u) (g := g) (b := b) (cs := cs) (i := (r + j) % n) (n := n))
          have HE := Lib.hid (show ((r + j) % n + 1) % n = (r + (j + 1)) % n by rw [mod_addS])
          clear HW hp
          obtain ⟨i, hii⟩ : ∃ i, i = (r + j) % n := ⟨_, rfl⟩
          rw [← hii] at hi q0 q1 HNX HE ⊢
          have hi2 : (i : Int) < n := by omega
          clear hii
          go_wp2_with fail
          refine (HNX.out _ HT.out hi).mono ?_
          rintro e w4 ⟨rfl, rfl⟩
          rw [HE.out]
          go_wp2_with fail
          go_roundw
          case rel => exact ⟨j + 1, by omega, rfl, congrArg (Value.int .i64) (by rw [Int.natCast_emod]; rfl), by go_num, trivial, HW2⟩
          case measure => simp [intOf]; omega
    · obtain rfl : j = n := by omega
      have HFO := Lib.hid (show FoundS j cs k (-1) false from .inr (.inr ⟨rfl, rfl, HW.out⟩))
      have hlt2 : ¬ (j : Int) < j := by omega
      clear HW
      go_wp2_with fail
      refine door_idle (by simp [go_sem]) (slidleF _) _ (by simp [results, Try.results19, go_sem]; rfl) ?_
      exact ⟨_, _, by rw [HRR.out], HFO.out, HL.out⟩
set_option maxHeartbeats 800000 in
/-- what stands by a key -/
theorem slget_any (h : SlAt w g b n cs) (hs : StS n (homeS n) cs) (k : Int) : Calls Try.prog 13 #[.pointer (some ⟨g, 0, none⟩), .int .i64 k] w fun e w' => ∃ v : Int, e = .returned (.tuple #[.int .i64 v, .bool (hasS (pairsS cs) k)]) ∧
    (hasS (pairsS cs) k = true → (k, v) ∈ pairsS cs) ∧ (hasS (pairsS cs) k = false → v = 0) ∧ Low w w' := by
  have HF := Lib.hid (slfind_any h k)
  have hh := homeS_lt (show 0 < n from h.n1) k
  have HT := Lib.hid h
  clear h
  go_enter Try.func13, Try.ntmps13
  go_wp2_with fail
  refine HF.out.mono ?_
  rintro e w2 ⟨at_, there, rfl, hfo, hl⟩
  have HL := Lib.hid hl
  have T2 := Lib.hid (HT.out.low hl)
  have c1 : w2.cell? ⟨g, 1, none⟩ = some (.slice (some ⟨b, 0, none⟩) n n) := T2.out.head.cell 1
  rcases hfo with ⟨i, v, hi, rfl, rfl, hk⟩ | ⟨j, hj, rfl, rfl, hw, hf⟩ | ⟨rfl, rfl, hw⟩
  · obtain ⟨_, _, q2, _⟩ := T2.out.key hk
    have HAS := Lib.hid (hs.hasAt hk)
    have HM := Lib.hid (pairsS_mem.2 ⟨i, hk⟩)
    have hi2 : (i : Int) < n := by omega
    clear hl hk HT HF hh
    dsimp only at q2
    go_wp2_with fail
    go_ret2
    rw [HAS.out]
    exact ⟨v, rfl, fun _ => HM.out, (by intro h; cases h), HL.out⟩
  · have HAS := Lib.hid (hs.notFree hh hw hj hf)
    clear hl hw hf HT HF hh
    go_wp2_with fail
    go_ret2
    rw [HAS.out]
    exact ⟨0, rfl, (by intro h; cases h), fun _ => rfl, HL.out⟩
  · have HAS := Lib.hid (hs.notFull hh hw).1
    clear hl hw HT HF hh
    go_wp2_with fail
    go_ret2
    rw [HAS.out]
    exact ⟨0, rfl, (by intro h; cases h), fun _ => rfl, HL.out⟩
theorem pairsS_next {cs : List (Option (Int × Int))} {i : Nat} (h : i < cs.length) : (pairsS (cs.take (i + 1))).length = (pairsS (cs.take i)).length + (if cs[i]? = some none then 0 else 1) := by
  rw [List.take_succ_eq_append_getElem h]
  unfold pairsS
  rw [List.filterMap_append, List.length_append, List.getElem?_eq_getElem h]
  cases cs[i] with
  | none => rfl
  | some p => rfl
set_option maxHeartbeats 800000 in
theorem sllen_any (h : SlAt w g b n cs) : Calls Try.prog 15 #[.pointer (some ⟨g, 0, none⟩)] w fun e w' => e = .returned (.int .i64 ((pairsS cs).length : Nat)) ∧ w' = w := by
  have HC := Lib.hid (slcap_any h)
  have c1 : w.cell? ⟨g, 1, none⟩ = some (.slice (some ⟨b, 0, none⟩) n n) := h.head.cell 1
  have hn := h.n2
  have hlen := h.len
  have HT := Lib.hid h
  clear h
  go_enter Try.func15, Try.ntmps15
  go_wp2_with fail
  refine HC.out.mono ?_
  rintro e w2 ⟨rfl, rfl⟩
  go_wp2_with fail
  go_loopw [3, 4, 7] (fun v3 v4 v7 wr => ∃ j : Nat, j ≤ n ∧ v3 = .int .i64 ((pairsS (cs.take j)).length : Nat) ∧ v7 = .int .i64 j ∧ wr = w2) (fun _ _ v7 _ => n - (intOf v7).toNat)
  case atStart => exact ⟨0, Nat.zero_le _, by rw [List.take_zero]; rfl, rfl, rfl⟩
  case round =>
    obtain ⟨j, hj, rfl, rfl, rfl⟩ := hrel
    by_cases hlt : j < n
    · have hlt2 : (j : Int) < n := by omega
      have HN := Lib.hid (pairsS_next (cs := cs) (i := j) (by omega))
      have hm := pairsS_len (cs.take j)
      rw [List.length_take] at hm
      generalize (pairsS (cs.take j)).length = m at *
      rcases getS_some (cs := cs) (i := j) (by omega) with hf | ⟨p, hp⟩
      · obtain ⟨q0, _, _, _⟩ := HT.out.free hf
        rw [if_pos hf] at HN
        clear hf
        go_wp2_with fail
        go_roundw
        case rel => exact ⟨j + 1, by omega, by rw [HN.out, Nat.add_zero], by go_num, trivial⟩
        case measure => simp [intOf]; omega
      · obtain ⟨q0, _, _, _⟩ := HT.out.key hp
        rw [if_neg (by rw [hp]; simp)] at HN
        clear hp
        go_wp2_with fail
        go_roundw
        case rel => exact ⟨j + 1, by omega, by rw [HN.out]; go_num, by go_num, trivial⟩
        case measure => simp [intOf]; omega
    · obtain rfl : j = n := by omega
      have hlt2 : ¬ (j : Int) < j := by omega
      rw [List.take_of_length_le (by omega)]
      go_wp2_with fail
      go_ret
      exact ⟨rfl, rfl⟩
end
end Go.Proofs.Ytipggnjjmpacmaa
