/- What addr.readGroups tells of any text. Conditions: it is shorter than 2^32 - 15 bytes (the model's bound); the library's variables hold what its text lays. -/
import Derived.Test.YtcdeabiellefcaaDoorAdJ
namespace Go.Proofs.YtcdeabiellefcaaDoor
open Go.RowKit
set_option linter.unusedVariables false

/-- the numbers of groups -/
def rdList : List (List UInt8) → Option (List Int)
  | [] => some []
  | p :: r => match rdG p with
    | none => none
    | some n => (rdList r).map ((n : Int) :: ·)
def rdGroups (l : List UInt8) : Option (List Int) := if l = [] then some [] else rdList (Lib.splitN l [58] 9)
theorem rdList_fail {p : List UInt8} {r : List (List UInt8)} (h : rdG p = none) : rdList (p :: r) = none := by rw [rdList, h]
theorem rdList_more {p : List UInt8} {r : List (List UInt8)} {n : Nat} (h : rdG p = some n) : rdList (p :: r) = (rdList r).map ((n : Int) :: ·) := by rw [rdList, h]

theorem OwnN.none_ (t : TypeId) (w : World) (base : Nat) : OwnN t w base none 0 0 [] := ⟨⟨rfl, .inl ⟨rfl, rfl⟩⟩, AllI.nil⟩
theorem info_int : (Tryd.prog.info? 3).map (fun i => (i.zero, i.size, i.bytes)) = some (some (.int .i64 0), 1, 8) := by kernel_rfl
theorem info_int_parts : ∃ i, Tryd.prog.info? 3 = some i ∧ i.zero = some (.int .i64 0) ∧ i.size = 1 ∧ i.bytes = 8 := by
  have h := info_int
  cases hq : Tryd.prog.info? 3 with
  | none => simp [hq] at h
  | some i => simp [hq] at h; exact ⟨i, rfl, h⟩

/-- k groups are read -/
def GsRel (w1 : World) (B : Nat) (qs : List (List UInt8)) (v i : Value) (wr : World) : Prop :=
  ∃ (k : Nat) (A : Option Addr) (c : Nat) (ws : List Int), k ≤ qs.length ∧ i = .int .i64 k ∧ v = .slice A k c ∧ OwnN 3 wr B A k c ws ∧ (∀ x ∈ ws, 0 ≤ x ∧ x < 65536) ∧ rdList qs = (rdList (qs.drop k)).map (ws ++ ·) ∧ Below B w1 wr
/-- the call hands back the numbers, or that there are none -/
def GivesNs (w : World) (o : Option (List Int)) (e : Ending) (w' : World) : Prop :=
  ∃ A n c, e = .returned (.tuple #[.slice A n c, .bool o.isSome]) ∧ Ns w' w'.heap.size A n (o.getD []) ∧ n ≤ 9 ∧ n ≤ c ∧ c ≤ maxLen ∧ (∀ x ∈ o.getD [], 0 ≤ x ∧ x < 65536) ∧ Below w.heap.size w w'

theorem range_snoc {ws : List Int} (h : ∀ x ∈ ws, 0 ≤ x ∧ x < 65536) {n : Int} (h0 : 0 ≤ n) (h1 : n < 65536) : ∀ x ∈ ws ++ [n], 0 ≤ x ∧ x < 65536 := fun x hx => by
  rcases List.mem_append.1 hx with hx | hx
  · exact h x hx
  · obtain rfl : x = n := by simpa using hx
    exact ⟨h0, h1⟩
theorem split_size (sep : ByteArray) : ∀ (k : Nat) (s : ByteArray), ∀ p ∈ Lib.splitB sep 0 k s, p.size ≤ s.size
  | 0, s, p, h => by
    obtain rfl : p = s := by simpa [Lib.splitB] using h
    exact Nat.le_refl _
  | k + 1, s, p, h => by
    unfold Lib.splitB at h
    split at h
    · obtain rfl : p = s := by simpa using h
      exact Nat.le_refl _
    · rcases List.mem_cons.1 h with rfl | h
      · rw [ByteArray.size_extract]; omega
      · have := split_size sep k _ p h
        rw [ByteArray.size_extract] at this
        omega
theorem split9_any (s : ByteArray) (w : World) (hs : s.size < 4294967281) (h : Libs w) :
    Calls Tryd.prog 34 #[.string s, .string ⟨#[58]⟩, .int .i64 9] w fun e w' => ∃ (ps : List ByteArray) (c : Nat), e = .returned (.slice (some ⟨w.heap.size, 0, none⟩) ps.length c) ∧
      Hid (ps.map (·.data.toList) = Lib.splitN s.data.toList [58] 9) ∧ ps.length ≤ 9 ∧ Hid (∀ p ∈ ps, p.size < 4294967281) ∧ Hid (∀ j p, ps[j]? = some p → w'.cell? ⟨w.heap.size, j, none⟩ = some (.string p)) ∧ Below w.heap.size w w' ∧ w.heap.size < w'.heap.size := by
  obtain ⟨m, hm⟩ := h.maxl
  refine (Tryd.strings_SplitN s ⟨#[58]⟩ 9 m w hs hm (by decide) (by omega) (by omega)).mono ?_
  rintro e w1 ⟨rfl, rfl⟩
  refine ⟨_, _, rfl, Lib.splitB_data _ _ _ _, ?_, Lib.hid fun p hp => Nat.lt_of_le_of_lt (split_size _ _ _ p hp) hs, Lib.hid fun j p hp => ?_, Low.alloc w _, by simp⟩
  · have := Lib.splitB_length_le ⟨#[58]⟩ 0 (min 9 (s.size + 1) - 1) s
    omega
  · rw [cell_of_row _ _ _ _ _ _ (heap_alloc_new w _), Lib.cellsOf, List.getElem?_toArray, List.getElem?_append_left (by simpa using (List.getElem?_eq_some_iff.1 hp).1)]
    simp [hp]

theorem rd_step {qs : List (List UInt8)} {k n : Nat} {ws : List Int} {p : List UInt8} (hp : qs[k]? = some p) (hg : rdG p = some n) (h : rdList qs = (rdList (qs.drop k)).map (ws ++ ·)) : rdList qs = (rdList (qs.drop (k + 1))).map ((ws ++ [(n : Int)]) ++ ·) := by
  obtain ⟨hk, rfl⟩ := List.getElem?_eq_some_iff.1 hp
  rw [h, List.drop_eq_getElem_cons hk, rdList_more hg]
  cases rdList (qs.drop (k + 1)) <;> simp
theorem rd_stop {qs : List (List UInt8)} {k : Nat} {ws : List Int} {p : List UInt8} (hp : qs[k]? = some p) (hg : rdG p = none) (h : rdList qs = (rdList (qs.drop k)).map (ws ++ ·)) : rdList qs = none := by
  obtain ⟨hk, rfl⟩ := List.getElem?_eq_some_iff.1 hp
  rw [h, List.drop_eq_getElem_cons hk, rdList_fail hg]
  rfl
theorem rd_done {qs : List (List UInt8)} {k : Nat} {ws : List Int} (hk : qs.length ≤ k) (h : rdList qs = (rdList (qs.drop k)).map (ws ++ ·)) : rdList qs = some ws := by
  rw [h, List.drop_eq_nil_of_le hk, rdList]
  simp

set_option maxHeartbeats 1600000 in
theorem readGroups_any (s : ByteArray) (w : World) (hs : s.size < 4294967281) (h : Libs w) :
    Calls Tryd.prog 27 #[.string s] w (GivesNs w (rdGroups s.data.toList)) := by
  by_cases h0 : s.size = 0
  · obtain rfl : s = ⟨#[]⟩ := by
      apply ByteArray.ext
      exact Array.eq_empty_of_size_eq_zero h0
    go_enter Tryd.func27, Tryd.ntmps27
    go_wp2
    go_ret2
    exact ⟨none, 0, 0, rfl, Ns.nil _ _ _, by omega, by omega, by unfold maxLen; omega, (fun x hx => by cases hx), Below.refl _ _⟩
  · have hne : ¬ s.toList = [] := fun h => by
      rw [ByteArray.toList_eq] at h
      exact h0 (by have := congrArg List.length h; simpa using this)
    have hne2 : (s.toList == []) = false := by simpa using hne
    have HL := Lib.hid h
    have HR := Lib.hid (show rdGroups s.data.toList = rdList (Lib.splitN s.data.toList [58] 9) by
      unfold rdGroups
      rw [if_neg (fun h => h0 (by have := congrArg List.length h; simpa using this))])
    obtain ⟨i0, hi, hz0, hz1, hz2⟩ := info_int_parts
    have HI := Lib.hid hi
    have HZ0 := Lib.hid hz0
    have HZ1 := Lib.hid hz1
    have HZ2 := Lib.hid hz2
    clear h hi hz0 hz1 hz2
    go_enter Tryd.func27, Tryd.ntmps27
    go_wp2_with fail
    refine (split9_any s w hs HL.out).mono ?_
    rintro e w1 ⟨ps, cp, rfl, HP, hlen, HPS, HC, hL, hgz⟩
    rw [← HP.out] at HR
    obtain ⟨qs, hqs⟩ : ∃ qs, qs = ps.map (·.data.toList) := ⟨_, rfl⟩
    have HQ := Lib.hid hqs
    rw [← hqs] at HR
    have HQL := Lib.hid (show qs.length = ps.length by rw [hqs, List.length_map])
    clear hqs HP
    go_wp2_with fail
    go_loopw [4, 14] (fun v i wr => GsRel w1 w1.heap.size qs v i wr) (fun _ i _ => ps.length - (intOf i).toNat)
    case atStart => exact ⟨0, none, 0, [], Nat.zero_le _, rfl, rfl, OwnN.none_ _ _ _, (fun x hx => by cases hx), by simp, Below.refl _ _⟩
    case round =>
      obtain ⟨k, A, c, ws, hk, rfl, rfl, hO, hws, he, hB⟩ := hrel
      rw [HQL.out] at hk
      have HE := Lib.hid he
      have HWS := Lib.hid hws
      clear he hws
      by_cases hlt : k < ps.length
      · obtain ⟨p, hp⟩ : ∃ p, ps[k]? = some p := ⟨ps[k], by simp [hlt]⟩
        have h0 := HC.out k p hp
        rw [← hB.cell (p := ⟨w.heap.size, k, none⟩) hgz] at h0
        have hps := HPS.out p (List.mem_of_getElem? hp)
        have HPQ := Lib.hid (show qs[k]? = some p.data.toList by rw [HQ.out, List.getElem?_map, hp]; rfl)
        clear hp
        go_wp2_with fail
        refine (readGroup_any p wr hps).mono ?_
        rintro e w2 ⟨rfl, hr, hl⟩
        have hO2 := hO.below hl
        have hB2 := hB.trans (hl.mono hB.size)
        clear hO hB hl h0
        cases hg : rdG p.data.toList with
        | none =>
          have HX := Lib.hid (HR.out.trans (rd_stop HPQ.out hg HE.out))
          clear hg
          simp only [Option.isSome_none, Option.getD_none]
          go_wp2
          go_ret2
          rw [HX.out]
          exact ⟨none, 0, 0, rfl, Ns.nil _ _ _, by omega, by omega, by unfold maxLen; omega, (fun x hx => by cases hx), hL.trans (hB2.mono hL.size)⟩
        | some n =>
          have HX := Lib.hid (rd_step HPQ.out hg HE.out)
          rw [hg] at hr
          simp only [Option.getD_some] at hr
          clear hg
          simp only [Option.isSome_some, Option.getD_some]
          have hlB := Low.alloc w2 (.cells #[.int .i64 n] 3)
          have hB3 := hB2.trans (hlB.mono hB2.size)
          have hO3 := hO2.below hlB
          have hk3 : BlkN (w2.alloc (.cells #[.int .i64 n] 3)) 3 w2.heap.size [(n : Int)] := BlkN.new w2 3 [(n : Int)]
          have hs3 := hk3.bs (B := w2.heap.size + 1) (.cons (by omega) (by omega) .nil) (by omega) rfl
          clear hO2 hB2 hlB hk3
          go_wp2_with (at_builtin; refine wpList_append_ns rfl (.tmp 25) (.tmp 27) _ rfl w1.heap.size 3 i0 Tryd.underlying24 HI.out HZ0.out HZ1.out HZ2.out _ k c _ rfl hO3 _ 1 _ _ [(n : Int)] rfl hs3 (by omega) hB3.size ?_; intro A4 c4 w4 hO4 hg4 hb4)
          have hB4 : Below w1.heap.size w1 w4 := hB3.grown hg4 hB3.size (fun k hk => (hO3.lt k hk).1)
          go_roundw
          case rel => exact ⟨k + 1, A4, c4, ws ++ [(n : Int)], by rw [HQL.out]; omega, by go_num, rfl, hO4, range_snoc HWS.out (by omega) (by omega), HX.out, hB4⟩
          case measure => simp [intOf]; omega
      · obtain rfl : k = ps.length := by omega
        have HX := Lib.hid (HR.out.trans (rd_done (by rw [HQL.out]; exact Nat.le_refl _) HE.out))
        have hcap := hO.cap
        go_wp2
        go_ret2
        rw [HX.out]
        exact ⟨A, ps.length, c, rfl, hO.bs (Nat.le_refl _), hlen, hcap.1, hcap.2, HWS.out, hL.trans (hB.mono hL.size)⟩
end Go.Proofs.YtcdeabiellefcaaDoor
