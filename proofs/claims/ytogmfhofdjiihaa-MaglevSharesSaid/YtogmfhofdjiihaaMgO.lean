/- Stage 17: members cloned, and sorted by their nodes. Condition: at most 40 members, no two of one node. -/
import Derived.Test.YtogmfhofdjiihaaMgL
import Derived.Test.YtogmfhofdjiihaaSrt
import Derived.Test.YtogmfhofdjiihaaSorts
import Derived.Shelf.LaySoft
set_option maxRecDepth 100000
namespace Go.Proofs.Ytogmfhofdjiihaa
open Go.RowKit
set_option linter.unusedVariables false

set_option maxHeartbeats 1600000 in
theorem cmpint_any (x y : Int) (w : World) : Calls Try.prog 27 #[.int .i64 x, .int .i64 y] w fun e w' => e = .returned (.int .i64 (if x < y then -1 else if y < x then 1 else 0)) ∧ w = w' := by
  have hx : (x != x) = false := by simp
  have hy : (y != y) = false := by simp
  have HN : Hid (∀ (x : Int) (w : World), Calls Try.prog 33 #[.int .i64 x] w fun e w' => e = .returned (.bool false) ∧ w = w') := Lib.hid fun x w => by
    have hx : (x != x) = false := by simp
    go_enter Try.func33, Try.ntmps33
    go_wp2_with fail
    go_ret
    exact ⟨rfl, rfl⟩
  by_cases h1 : x < y
  · rw [if_pos h1]
    go_enter Try.func27, Try.ntmps27
    go_wp2_with fail
    refine (HN.out x w).mono ?_
    rintro e w1 ⟨rfl, rfl⟩
    go_wp2_with fail
    refine (HN.out y w).mono ?_
    rintro e w1 ⟨rfl, rfl⟩
    go_wp2_with fail
    go_ret
    exact ⟨rfl, rfl⟩
  · rw [if_neg h1]
    by_cases h2 : y < x
    · rw [if_pos h2]
      go_enter Try.func27, Try.ntmps27
      go_wp2_with fail
      refine (HN.out x w).mono ?_
      rintro e w1 ⟨rfl, rfl⟩
      go_wp2_with fail
      refine (HN.out y w).mono ?_
      rintro e w1 ⟨rfl, rfl⟩
      go_wp2_with fail
      go_ret
      exact ⟨rfl, rfl⟩
    · rw [if_neg h2]
      go_enter Try.func27, Try.ntmps27
      go_wp2_with fail
      refine (HN.out x w).mono ?_
      rintro e w1 ⟨rfl, rfl⟩
      go_wp2_with fail
      refine (HN.out y w).mono ?_
      rintro e w1 ⟨rfl, rfl⟩
      go_wp2_with fail
      go_ret
      exact ⟨rfl, rfl⟩
def cmpM (a b : Mbr) : Int := if a.n < b.n then -1 else if b.n < a.n then 1 else 0
set_option maxHeartbeats 1600000 in
theorem cmpM_any (a b : Mbr) (w : World) : Calls Try.prog 26 #[.agg (mbrC a).toArray, .agg (mbrC b).toArray] w fun e w' => e = .returned (.int .i64 (cmpM a b)) ∧ Ext w w' := by
  have HE := Lib.hid (show cmpM a b = if a.n < b.n then -1 else if b.n < a.n then 1 else 0 from rfl)
  have HC := Lib.hid (fun w => cmpint_any a.n b.n w)
  rw [← HE.out] at HC
  clear HE
  have hx0 := Ext.alloc w (.cells (mbrC a).toArray 40)
  have hx := hx0.trans (Ext.alloc _ (.cells (mbrC b).toArray 40))
  have c0 : ((w.alloc (.cells (mbrC a).toArray 40)).alloc (.cells (mbrC b).toArray 40)).cell? ⟨w.heap.size, 0, none⟩ = some (.int .i64 a.n) := (((BlkV.new w 40 (mbrC a)).alloc _).cell 0)
  have c1 : ((w.alloc (.cells (mbrC a).toArray 40)).alloc (.cells (mbrC b).toArray 40)).cell? ⟨w.heap.size + 1, 0, none⟩ = some (.int .i64 b.n) := (BlkV.second (vs := mbrC b) (t := 40) _).cell 0
  have HX := Lib.hid hx
  clear hx0 hx
  generalize cmpM a b = r at *
  generalize a.n = an at *
  generalize b.n = bn at *
  generalize mbrC a = ac at *
  generalize mbrC b = bc at *
  go_enter Try.func26, Try.ntmps26
  go_wp2_with fail
  generalize (w.alloc (.cells ac.toArray 40)).alloc (.cells bc.toArray 40) = w1 at *
  refine (HC.out w1).mono ?_
  rintro e w2 ⟨rfl, rfl⟩
  go_wp2_with fail
  go_ret
  exact ⟨rfl, HX.out⟩
def cmpOM (a b : OkS mbrE) : Int := cmpM a.1 b.1
theorem ltOM (a b : OkS mbrE) : ltOf cmpOM a b = decide (a.1.n < b.1.n) := by
  unfold ltOf cmpOM cmpM
  by_cases h1 : a.1.n < b.1.n
  · simp [h1]
  · by_cases h2 : b.1.n < a.1.n
    · simp [h1, h2]
    · simp [h1, h2]
theorem swoM : Go.Sort.SWO (ltOf cmpOM) where
  irrefl x := by rw [ltOM]; simp
  trans x y z h1 h2 := by rw [ltOM] at *; simp at *; omega
  ntrans x y z h1 h2 := by rw [ltOM] at *; simp at *; omega
theorem aggM (w : World) : (isAgg (Try.laysSort_ren.t 24)).run Try.prog w = .ok true w := by kernel_rfl
theorem sizM (w : World) : (Go.sizeOf (Try.laysSort_ren.t 24)).run Try.prog w = .ok 2 w := by kernel_rfl

set_option maxRecDepth 100000 in
theorem sortfuncM_any (A : Option Addr) (n c base : Nat) (l : List Mbr) (w : World) (hn : n ≤ 60) (h : OwnE mbrE 40 w base A n c l) (hd : (l.map Mbr.n).Nodup) :
    Calls Try.prog 25 #[.slice A n c, .func (.func 26) #[] #[]] w fun e w' => e = .returned (.tuple #[]) ∧ Es mbrE w' w'.heap.size A n (sortM l) ∧ Below base w w' := by
  rcases Nat.eq_zero_or_pos n with rfl | hn0
  · obtain rfl : l = [] := List.eq_nil_of_length_eq_zero h.len
    have hk := AnyF.slices_SortFunc_none Try.laysSort A c (.func (.func 26) #[] #[]) w
    change Calls Try.prog 25 _ _ _ at hk
    refine hk.mono ?_
    rintro e w' ⟨rfl, rfl⟩
    exact ⟨rfl, Es.nil _ _ _, Below.refl _ _⟩
  · obtain ⟨g, cap, hv, hbg, hlt⟩ := World.ownsRow.form h.1 hn0
    injection hv with hA _ hcc
    subst hA
    obtain ⟨ls, rfl⟩ := ofS (show ∀ x ∈ l, mbrE.ok x from h.2.1)
    have hln : ls.length = n := by have := h.len; simpa using this
    subst hln
    have hH := holdsS h
    have eg : ∀ args w, (callFunc 26 args).run Try.prog w = .ok (.enter 26 args) w := enters_of Try.func26 (by kernel_rfl) rfl
    have hcmp : CmpLays Try.prog 26 #[] (encS mbrE) 2 cmpOM g 0 ls.toArray.size w := fun m os dk _ x y => (cmpM_any x.1 y.1 _).mono fun e w' hh => hh
    have hk := AnyQ.slices_SortFunc Try.laysSort 2 aggM sizM (encS mbrE) (fun x => mbrE.len x.1 x.2) (fun x => mbrE.one x.1) cmpOM swoM 26 #[] g 0 c ls.toArray w eg hcmp hH hlt (by simp; omega)
    change Calls Try.prog 25 _ _ _ at hk
    rw [List.size_toArray] at hk
    refine hk.mono ?_
    rintro e w' ⟨rfl, d, m, os, hp, hs, rfl⟩
    obtain ⟨hsz, hpm⟩ := permS (by simpa using hp)
    have hpm2 := hpm.map (·.1)
    have hrs : RiseM (d.toList.map (·.1)) := by
      have hnd : ((d.toList.map (·.1)).map Mbr.n).Nodup := ((hpm2.map Mbr.n).nodup_iff).2 hd
      unfold RiseM
      rw [List.pairwise_iff_getElem]
      intro i j hi hj hij
      simp only [List.length_map, Array.length_toList] at hi hj
      have hne := List.pairwise_iff_getElem.1 hnd i j (by simpa using hi) (by simpa using hj) hij
      simp only [List.getElem_map, Array.getElem_toList] at hne ⊢
      have hso := (by simpa using hs : Go.Sort.SortedIn (ltOf cmpOM) 0 ls.length d) i j (Nat.zero_le _) hij (by omega)
      rw [getElem!_pos d i hi, getElem!_pos d j hj, ltOM] at hso
      have := of_decide_eq_false hso
      omega
    have he : d.toList.map (·.1) = sortM (ls.map (·.1)) := by
      obtain ⟨s1, s2, _⟩ := sortM_sorts hd
      exact rise_one _ _ hrs s1 fun y => (hpm2.mem_iff).trans (s2 y).symm
    rw [← he]
    exact ⟨rfl, sortS_es w g m ls d os hlt hH hsz, sortS_low (encS mbrE) 2 w g 0 m d os hlt hbg⟩

theorem info_mbr_parts : ∃ i, Try.prog.info? 40 = some i ∧ i.zero = some (.agg (mbrC zeroMbr).toArray) ∧ i.size = 2 ∧ i.bytes = 16 := by
  have h := info_mbr
  cases hi : Try.prog.info? 40 with
  | none => simp [hi] at h
  | some i =>
    simp [hi] at h
    exact ⟨i, rfl, h.1, h.2.1, h.2.2⟩
set_option maxRecDepth 100000 in
set_option maxHeartbeats 1600000 in
theorem cloneM_some (ad : Addr) (n c : Nat) (l : List Mbr) (w : World) (hn : n ≤ 60) (hb : Es mbrE w w.heap.size (some ad) n l) : Calls Try.prog 24 #[.slice (some ad) n c] w fun e w' => ∃ A' c', e = .returned (.slice A' n c') ∧ OwnE mbrE 40 w' w.heap.size A' n c' l ∧ Low w w' := by
  obtain ⟨i0, hi, hz0, hz1, hz2⟩ := info_mbr_parts
  have HI := Lib.hid hi
  have HZ0 := Lib.hid hz0
  have HZ1 := Lib.hid hz1
  have HZ2 := Lib.hid hz2
  have hl := Low.alloc w (.cells #[] 40)
  have hO := OwnE.freshG mbrE (base := w.heap.size) w 40 (Nat.le_refl _)
  have hb1 := hb.below hl
  have HLT := Lib.hid hO.lt
  have HL := Lib.hid hl
  have hnil : (binOp .eql 25 (.slice (some ad) n c) (.slice none 0 0)).run Try.prog w = .ok (.bool false) w := Lib.run_eql_slice_nil w 25 40 (some ad) n c 0 0 Try.underlying25
  clear hb hl hi hz0 hz1 hz2
  go_enter Try.func24, Try.ntmps24
  go_wp2_with (at_builtin; refine wpList_append_es (E := mbrE) rfl _ _ _ rfl w.heap.size 40 i0 _ 16 Try.underlying25 HI.out HZ0.out HZ1.out rfl HZ2.out _ 0 0 [] rfl hO _ n c w.heap.size l rfl hb1 (by omega) (by omega) (by simp) ?_; intro A2 c2 w1 hown hgr hob; refine Hid.out ?_)
  refine Lib.hid ?_
  have hB := HL.out.grown hgr (by simp) fun k e => (HLT.out k e).1
  rw [List.nil_append] at hown
  have HOW := Lib.hid hown
  clear hgr hob hown hO hb1 hnil
  go_wp2_with fail
  go_ret
  exact ⟨A2, c2, by simp, by simpa using HOW.out, hB⟩
set_option maxRecDepth 100000 in
theorem cloneM_any (A : Option Addr) (n c : Nat) (l : List Mbr) (w : World) (hn : n ≤ 60) (hb : Es mbrE w w.heap.size A n l) : Calls Try.prog 24 #[.slice A n c] w fun e w' => ∃ A' c', e = .returned (.slice A' n c') ∧ OwnE mbrE 40 w' w.heap.size A' n c' l ∧ Low w w' := by
  cases A with
  | some ad => exact cloneM_some ad n c l w hn hb
  | none =>
    have hn0 : n = 0 := by
      rcases Nat.eq_zero_or_pos n with h | h
      · exact h
      · obtain ⟨b, o, e, _⟩ := hb.mem h
        cases e
    subst hn0
    obtain rfl : l = [] := List.eq_nil_of_length_eq_zero hb.len
    have hnil : (binOp .eql 25 (.slice none 0 c) (.slice none 0 0)).run Try.prog w = .ok (.bool true) w := Lib.run_eql_slice_nil w 25 40 none 0 c 0 0 Try.underlying25
    go_enter Try.func24, Try.ntmps24
    go_wp2_with fail
    go_ret
    exact ⟨none, 0, rfl, OwnE.none_ _ _ _ _, Below.refl _ _⟩
end Go.Proofs.Ytogmfhofdjiihaa
