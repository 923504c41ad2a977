/- Stage 19: rows compared, and sorted by their nodes. Condition: at most 1000 rows, no two of one node. -/
import Derived.Test.YtjmpcmgnbamniaaShI
import Derived.Test.YtjmpcmgnbamniaaSrt
import Derived.Test.YtjmpcmgnbamniaaCmp
import Derived.Test.YtjmpcmgnbamniaaSorts
import Derived.Shelf.LaySoft
set_option maxRecDepth 100000
namespace Go.Proofs.Ytjmpcmgnbamniaa
open Go.RowKit
set_option linter.unusedVariables false

def cmpR (a b : Rws) : Int := if a.n < b.n then -1 else if b.n < a.n then 1 else 0
set_option maxHeartbeats 1600000 in
theorem cmpR_any (a b : Rws) (w : World) : Calls Try.prog 16 #[.agg (rwsC a).toArray, .agg (rwsC b).toArray] w fun e w' => e = .returned (.int .i64 (cmpR a b)) ∧ Ext w w' := by
  have HE := Lib.hid (show cmpR a b = if a.n < b.n then -1 else if b.n < a.n then 1 else 0 from rfl)
  have HC := Lib.hid (fun w => cmpint_any a.n b.n w)
  rw [← HE.out] at HC
  clear HE
  have hx0 := Ext.alloc w (.cells (rwsC a).toArray 29)
  have hx := hx0.trans (Ext.alloc _ (.cells (rwsC b).toArray 29))
  have c0 : ((w.alloc (.cells (rwsC a).toArray 29)).alloc (.cells (rwsC b).toArray 29)).cell? ⟨w.heap.size, 0, none⟩ = some (.int .i64 a.n) := (((BlkV.new w 29 (rwsC a)).alloc _).cell 0)
  have c1 : ((w.alloc (.cells (rwsC a).toArray 29)).alloc (.cells (rwsC b).toArray 29)).cell? ⟨w.heap.size + 1, 0, none⟩ = some (.int .i64 b.n) := (BlkV.second (vs := rwsC b) (t := 29) _).cell 0
  have HX := Lib.hid hx
  clear hx0 hx
  generalize cmpR a b = r at *
  generalize a.n = an at *
  generalize b.n = bn at *
  generalize rwsC a = ac at *
  generalize rwsC b = bc at *
  go_enter Try.func16, Try.ntmps16
  go_wp2_with fail
  generalize (w.alloc (.cells ac.toArray 29)).alloc (.cells bc.toArray 29) = w1 at *
  refine (HC.out w1).mono ?_
  rintro e w2 ⟨rfl, rfl⟩
  go_wp2_with fail
  go_ret
  exact ⟨rfl, HX.out⟩
def cmpOR (a b : OkS rwsE) : Int := cmpR a.1 b.1
theorem ltOR (a b : OkS rwsE) : ltOf cmpOR a b = decide (a.1.n < b.1.n) := by
  unfold ltOf cmpOR cmpR
  by_cases h1 : a.1.n < b.1.n
  · simp [h1]
  · by_cases h2 : b.1.n < a.1.n
    · simp [h1, h2]
    · simp [h1, h2]
theorem swoR : Go.Sort.SWO (ltOf cmpOR) where
  irrefl x := by rw [ltOR]; simp
  trans x y z h1 h2 := by rw [ltOR] at *; simp at *; omega
  ntrans x y z h1 h2 := by rw [ltOR] at *; simp at *; omega
theorem aggR (w : World) : (isAgg (Try.laysSort_ren.t 24)).run Try.prog w = .ok true w := by kernel_rfl
theorem sizR (w : World) : (Go.sizeOf (Try.laysSort_ren.t 24)).run Try.prog w = .ok 4 w := by kernel_rfl

set_option maxRecDepth 100000 in
theorem sortfuncR_any (A : Option Addr) (n c base : Nat) (l : List Rws) (w : World) (hn : n ≤ 1000) (h : OwnE rwsE 29 w base A n c l) (hd : (l.map Rws.n).Nodup) :
    Calls Try.prog 15 #[.slice A n c, .func (.func 16) #[] #[]] w fun e w' => e = .returned (.tuple #[]) ∧ ∃ l', Es rwsE w' w'.heap.size A n l' ∧ l'.Perm l ∧ RiseI (l'.map Rws.n) ∧ Below base w w' := by
  rcases Nat.eq_zero_or_pos n with rfl | hn0
  · obtain rfl : l = [] := List.eq_nil_of_length_eq_zero h.len
    have hk := AnyF.slices_SortFunc_none Try.laysSort A c (.func (.func 16) #[] #[]) w
    change Calls Try.prog 15 _ _ _ at hk
    refine hk.mono ?_
    rintro e w' ⟨rfl, rfl⟩
    exact ⟨rfl, [], Es.nil _ _ _, List.Perm.refl _, List.Pairwise.nil, Below.refl _ _⟩
  · obtain ⟨g, cap, hv, hbg, hlt⟩ := World.ownsRow.form h.1 hn0
    injection hv with hA _ hcc
    subst hA
    obtain ⟨ls, rfl⟩ := ofS (show ∀ x ∈ l, rwsE.ok x from h.2.1)
    have hln : ls.length = n := by have := h.len; simpa using this
    subst hln
    have hH := holdsS h
    have eg : ∀ args w, (callFunc 16 args).run Try.prog w = .ok (.enter 16 args) w := enters_of Try.func16 (by kernel_rfl) rfl
    have hcmp : CmpLays Try.prog 16 #[] (encS rwsE) 4 cmpOR g 0 ls.toArray.size w := fun m os dk _ x y => (cmpR_any x.1 y.1 _).mono fun e w' hh => hh
    have hk := AnyQ.slices_SortFunc Try.laysSort 4 aggR sizR (encS rwsE) (fun x => rwsE.len x.1 x.2) (fun x => rwsE.one x.1) cmpOR swoR 16 #[] g 0 c ls.toArray w eg hcmp hH hlt (by simp; omega)
    change Calls Try.prog 15 _ _ _ at hk
    rw [List.size_toArray] at hk
    refine hk.mono ?_
    rintro e w' ⟨rfl, d, m, os, hp, hs, rfl⟩
    obtain ⟨hsz, hpm⟩ := permS (by simpa using hp)
    have hpm2 := hpm.map (·.1)
    have hrs : RiseI ((d.toList.map (·.1)).map Rws.n) := by
      have hnd : ((d.toList.map (·.1)).map Rws.n).Nodup := ((hpm2.map Rws.n).nodup_iff).2 hd
      unfold RiseI
      rw [List.pairwise_iff_getElem]
      intro i j hi hj hij
      have hne := List.pairwise_iff_getElem.1 hnd i j hi hj hij
      simp only [List.length_map, Array.length_toList] at hi hj
      simp only [List.getElem_map, Array.getElem_toList] at hne ⊢
      have hso := (by simpa using hs : Go.Sort.SortedIn (ltOf cmpOR) 0 ls.length d) i j (Nat.zero_le _) hij (by omega)
      rw [getElem!_pos d i hi, getElem!_pos d j hj, ltOR] at hso
      have := of_decide_eq_false hso
      omega
    exact ⟨rfl, d.toList.map (fun x : OkS rwsE => x.1), sortS_es w g m ls d os hlt hH hsz, hpm2, hrs, sortS_low (encS rwsE) 4 w g 0 m d os hlt hbg⟩
end Go.Proofs.Ytjmpcmgnbamniaa
