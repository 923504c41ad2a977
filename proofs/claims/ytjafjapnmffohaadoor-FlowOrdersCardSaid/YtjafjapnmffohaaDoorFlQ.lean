/- What flow.ordered and flow.Sort tell: the flows in order, each once. Conditions: at most 60 flows. -/
import Derived.Test.YtjafjapnmffohaaDoorFlO
import Derived.Test.YtjafjapnmffohaaDoorSorts
set_option maxRecDepth 100000
namespace Go.Proofs.YtjafjapnmffohaaDoor
open Go.RowKit
set_option linter.unusedVariables false

theorem flat_flatK (ls : List FwO) (j : Nat) (hj : j < ls.length * 34) : (fwE.flat (ls.map (·.1)))[j]? = some ((Go.Sort.flatK encO 34 ls.toArray)[j]!) := by
  rw [Go.Sort.get_flatK _ _ _ _ (by simpa using hj)]
  have hi : j / 34 < ls.length := Nat.div_lt_of_lt_mul (by omega)
  have hall : fwE.all (ls.map (·.1)) := fun a ha => by
    obtain ⟨x, _, rfl⟩ := List.mem_map.1 ha
    exact x.2
  have h := Elt.flat_get (E := fwE) (l := ls.map (·.1)) hall (i := j / 34) (j := j % 34) (by simpa using hi) (Nat.mod_lt _ (by omega))
  rw [show j / 34 * fwE.k + j % 34 = j from Nat.div_add_mod' j 34] at h
  have e1 : (ls.map (·.1)).getD (j / 34) fwE.zero = (ls[j / 34]).1 := by simp [List.getD, hi]
  have e2 : ls.toArray[j / 34]! = ls[j / 34] := by rw [getElem!_pos _ _ (by simpa using hi)]; simp
  have hm : j % 34 < (fwC (ls[j / 34]).1).length := by rw [fwC_length (ls[j / 34]).2.s (ls[j / 34]).2.d]; exact Nat.mod_lt _ (by omega)
  rw [h, e1, e2]
  show (fwC (ls[j / 34]).1)[j % 34]? = some ((fwC (ls[j / 34]).1)[j % 34]!)
  rw [List.getElem?_eq_getElem hm, getElem!_pos (fwC (ls[j / 34]).1) (j % 34) hm]
theorem holdsK_own {w : World} {base g n c : Nat} {ls : List FwO} (h : OwnE fwE 25 w base (some ⟨g, 0, none⟩) n c (ls.map (·.1))) : Go.Sort.HoldsK encO 34 w g 0 ls.toArray := fun j hj => by
  have hj' : j < ls.length * 34 := by simpa using hj
  constructor
  · have := World.ownsRow.cells h.1 (g := g) rfl j _ (flat_flatK ls j hj')
    simpa [Addr.add_lit] using this
  · obtain ⟨⟨h1, h2⟩, _⟩ := h
    rcases h2 with ⟨e, h0⟩ | ⟨g', cap, cur, hv, hbg, hg, hnc, hcm, hsz, htk⟩
    · cases e
    · injection hv with hA hn' hc'
      injection hA with hA
      injection hA with hA _ _
      subst hA
      simp [World.frozen?, hg]
theorem sortW_low {α : Type} [Inhabited α] (enc : α → List Value) (k : Nat) (w : World) (g o m : Nat) (d : Array α) (os : Array Obj) {B : Nat} (hg : g < w.heap.size) (hB : B ≤ g) : Below B w (sortWorldK enc k w g o m d os) := by
  unfold sortWorldK
  refine ⟨rfl, rfl, rfl, by simp [Go.Sort.putRowK, Go.Sort.ahead], fun j hj => ?_⟩
  rw [Go.Sort.heap_grow_old _ _ (by simp [Go.Sort.putRowK, Go.Sort.ahead]; omega)]
  simp only [Go.Sort.putRowK, Go.Sort.putRow, Go.Sort.mapBlock, Array.getElem?_modify]
  rw [if_neg (by omega)]
  rfl
theorem sortW_es (w : World) (g m : Nat) (ls : List FwO) (d : Array FwO) (os : Array Obj) (hg : g < w.heap.size) (hH : Go.Sort.HoldsK encO 34 w g 0 ls.toArray) (hs : d.size = ls.length) :
    Es fwE (sortWorldK encO 34 w g 0 m d os) (sortWorldK encO 34 w g 0 m d os).heap.size (some ⟨g, 0, none⟩) ls.length (d.toList.map (·.1)) := by
  have hlt : g < (sortWorldK encO 34 w g 0 m d os).heap.size := Nat.lt_of_lt_of_le hg (sortW_low encO 34 w g 0 m d os hg (Nat.le_refl _)).size
  refine Es.of_cells (by simp [hs]) (fun a ha => by obtain ⟨x, _, rfl⟩ := List.mem_map.1 ha; exact x.2) hlt fun j v hv => ?_
  have hj : j < d.size * 34 := by
    have h1 := (List.getElem?_eq_some_iff.1 hv).1
    rw [Elt.flat_len (E := fwE) (fun a ha => by obtain ⟨x, _, rfl⟩ := List.mem_map.1 ha; exact x.2)] at h1
    exact (by simpa using h1 : j < d.size * fwE.k)
  have e := flat_flatK d.toList j (by simpa using hj)
  rw [hv] at e
  rw [Option.some.inj e]
  unfold sortWorldK
  rw [Go.Sort.cell?_grow _ _ _ (by simp [Go.Sort.putRowK]; exact hg)]
  exact Go.Sort.cell?_putRow id (Go.Sort.ahead w m) g 0 (Go.Sort.flatK encO 34 ls.toArray) (Go.Sort.flatK encO 34 d) hH (by simp [hs]) j (by simpa using hj)
theorem sortW_cell {α : Type} [Inhabited α] (enc : α → List Value) (k : Nat) (w : World) (g o m : Nat) (d : Array α) (os : Array Obj) (p : Addr) (hp : p.block < w.heap.size) (hne : p.block ≠ g) : (sortWorldK enc k w g o m d os).cell? p = w.cell? p := by
  unfold sortWorldK
  rw [Go.Sort.cell?_grow _ _ _ (by simp [Go.Sort.putRowK]; exact hp)]
  exact Go.Sort.cell?_putRow_other id (Go.Sort.ahead w m) g o _ p (.inl hne)
/-- what is sorted is the list in order -/
theorem sorts_of {ls : List FwO} {d : Array FwO} (hd : (ls.map (·.1)).Pairwise (· ≠ ·)) (hp : Go.Sort.PermIn 0 ls.toArray.size ls.toArray d) (hs : Go.Sort.SortedIn (ltOf cmpO) 0 ls.toArray.size d) : d.size = ls.length ∧ SortsF (ls.map (·.1)) (d.toList.map (·.1)) := by
  obtain ⟨h1, _, h3⟩ := hp
  have hsz : d.size = ls.length := by simpa using h1
  have hperm : d.toList.Perm ls := by
    have e1 : d.extract 0 ls.toArray.size = d := by rw [← h1]; exact Array.extract_size
    have e2 : ls.toArray.extract 0 ls.toArray.size = ls.toArray := Array.extract_size
    rw [e1, e2] at h3
    simpa using h3
  have hp2 := hperm.map (·.1)
  have hnd : (d.toList.map (·.1)).Pairwise (· ≠ ·) := (hp2.pairwise_iff (fun {a b} (h : a ≠ b) => h.symm)).2 hd
  refine ⟨hsz, fun x => hp2.mem_iff, ?_⟩
  unfold Ordered
  rw [List.pairwise_iff_getElem] at hnd ⊢
  intro i j hi hj hij
  have hne := hnd i j hi hj hij
  simp only [List.length_map, Array.length_toList] at hi hj
  simp only [List.getElem_map, Array.getElem_toList] at hne ⊢
  have hso := hs i j (Nat.zero_le _) hij (by simpa [← hsz] using hj)
  rw [getElem!_pos d i hi, getElem!_pos d j hj, ltO] at hso
  rcases lessF_tri (d[i]).2 (d[j]).2 hne with ⟨k, _⟩ | ⟨_, k⟩
  · exact k
  · rw [hso] at k
    exact absurd k (by decide)
theorem aggFw (w : World) : (isAgg (Tryd.laysSort_ren.t 24)).run Tryd.prog w = .ok true w := by kernel_rfl
theorem sizFw (w : World) : (Go.sizeOf (Tryd.laysSort_ren.t 24)).run Tryd.prog w = .ok 34 w := by kernel_rfl
theorem ofO {l : List Fw} (h : ∀ x ∈ l, x.ok) : ∃ ls : List FwO, ls.map (·.1) = l := ⟨l.pmap (fun a ha => ⟨a, ha⟩) h, by rw [List.map_pmap]; simp⟩

theorem sortfunc_any (A : Option Addr) (n c base gf : Nat) (l : List Fw) (w : World) (hn : n ≤ 60) (h : OwnE fwE 25 w base A n c l) (hd : l.Pairwise (· ≠ ·)) (hgf : gf < base) (hc : w.cell? ⟨gf, 0, none⟩ = some (.func (.func 16) #[] #[])) :
    Calls Tryd.prog 36 #[.slice A n c, .func (.func 37) #[] #[.pointer (some ⟨gf, 0, none⟩)]] w fun e w' => e = .returned (.tuple #[]) ∧ ∃ out, Es fwE w' w'.heap.size A n out ∧ SortsF l out ∧ Below base w w' := by
  rcases Nat.eq_zero_or_pos n with rfl | hn0
  · obtain rfl : l = [] := List.eq_nil_of_length_eq_zero h.len
    have hk := AnyF.slices_SortFunc_none Tryd.laysSort A c (.func (.func 37) #[] #[.pointer (some ⟨gf, 0, none⟩)]) w
    change Calls Tryd.prog 36 _ _ _ at hk
    refine hk.mono ?_
    rintro e w' ⟨rfl, rfl⟩
    exact ⟨rfl, [], Es.nil _ _ _, ⟨fun x => Iff.rfl, List.Pairwise.nil⟩, Below.refl _ _⟩
  · obtain ⟨g, cap, hv, hbg, hlt⟩ := World.ownsRow.form h.1 hn0
    injection hv with hA _ hcc
    subst hA
    obtain ⟨ls, rfl⟩ := ofO (show ∀ x ∈ l, x.ok from h.2.1)
    have hln : ls.length = n := by have := h.len; simpa using this
    subst hln
    have hH := holdsK_own h
    have eg : ∀ args w, (callFunc 37 args).run Tryd.prog w = .ok (.enter 37 args) w := enters_of Tryd.func37 (by kernel_rfl) rfl
    have hgl : gf < w.heap.size := World.block_lt_of_cell? _ _ hc
    have hcmp : CmpLays Tryd.prog 37 #[.pointer (some ⟨gf, 0, none⟩)] encO 34 cmpO g 0 ls.toArray.size w := fun m os dk _ x y =>
      (cmp_any x.1 y.1 gf _ x.2 y.2 ((sortW_cell encO 34 w g 0 m dk os ⟨gf, 0, none⟩ hgl (by show gf ≠ g; omega)).trans hc)).mono fun e w' hh => hh
    have hk := AnyQ.slices_SortFunc Tryd.laysSort 34 aggFw sizFw encO (fun x => fwC_length x.2.s x.2.d) (fun x => fwC_one x.1) cmpO swoO 37 #[.pointer (some ⟨gf, 0, none⟩)] g 0 c ls.toArray w eg hcmp hH hlt (by simp; omega)
    change Calls Tryd.prog 36 _ _ _ at hk
    rw [List.size_toArray] at hk
    refine hk.mono ?_
    rintro e w' ⟨rfl, d, m, os, hp, hs, rfl⟩
    obtain ⟨hsz, hso⟩ := sorts_of hd (by simpa using hp) (by simpa using hs)
    exact ⟨rfl, _, sortW_es w g m ls d os hlt hH hsz, hso, sortW_low encO 34 w g 0 m d os hlt hbg⟩

set_option maxRecDepth 100000 in
set_option maxHeartbeats 1600000 in
theorem ordered_any (A : Option Addr) (n c base : Nat) (l : List Fw) (w : World) (hn : n ≤ 60) (h : OwnE fwE 25 w base A n c l) (hd : l.Pairwise (· ≠ ·)) :
    Calls Tryd.prog 25 #[.slice A n c, .func (.func 16) #[] #[]] w fun e w' => ∃ A' c' out, e = .returned (.slice A' n c') ∧ Es fwE w' w'.heap.size A' n out ∧ SortsF l out ∧ Below w.heap.size w w' := by
  have hl := Low.alloc w (.cells #[.func (.func 16) #[] #[]] 34)
  have HO := Lib.hid (h.below hl)
  have HD := Lib.hid hd
  have hc : (w.alloc (.cells #[.func (.func 16) #[] #[]] 34)).cell? ⟨w.heap.size, 0, none⟩ = some (.func (.func 16) #[] #[]) := by
    rw [World.cell?_alloc_new]
    rfl
  have HC := Lib.hid hc
  have HL := Lib.hid hl
  have hlt : w.heap.size < (w.alloc (.cells #[.func (.func 16) #[] #[]] 34)).heap.size := by simp
  clear h hd hl hc
  go_enter Tryd.func25, Tryd.ntmps25
  go_wp2_with fail
  generalize w.alloc (.cells #[.func (.func 16) #[] #[]] 34) = w1 at *
  refine (cloneF_any A n c base l w1 hn HO.out).mono ?_
  rintro e w2 ⟨A2, c2, rfl, hown, hl2⟩
  have HC2 := Lib.hid ((hl2.cell (p := ⟨w.heap.size, 0, none⟩) hlt).trans HC.out)
  have HL2 := Lib.hid (Low.trans HL.out hl2)
  have HOW := Lib.hid hown
  clear hown hl2 HO HC HL
  go_wp2_with fail
  refine (sortfunc_any A2 n c2 w1.heap.size w.heap.size l w2 hn HOW.out HD.out hlt HC2.out).mono ?_
  rintro e w3 ⟨rfl, out, hE, hS, hB⟩
  have HE := Lib.hid hE
  have HS := Lib.hid hS
  have hB3 := Below.trans HL2.out (hB.mono (by omega))
  clear hE hS hB HOW HC2 HL2
  go_wp2_with fail
  go_ret
  exact ⟨A2, c2, out, rfl, HE.out, HS.out, hB3⟩
theorem sorts_out {l : List Fw} {n : Nat} (hn : l.length = n) {out : List Fw} (h : SortsF (outF l n) out) : SortsF l out :=
  ⟨fun x => (h.1 x).trans (by rw [mem_outF l n (by omega) x, List.take_of_length_le (by omega)]), h.2⟩

set_option maxRecDepth 100000 in
set_option maxHeartbeats 1600000 in
theorem fsort_any (A : Option Addr) (n c : Nat) (l : List Fw) (w : World) (hn : n ≤ 60) (hl : Es fwE w w.heap.size A n l) :
    Calls Tryd.prog 14 #[.slice A n c] w fun e w' => ∃ A' m c' out, e = .returned (.slice A' m c') ∧ m ≤ 60 ∧ Es fwE w' w'.heap.size A' m out ∧ SortsF l out ∧ Below w.heap.size w w' := by
  have HL := Lib.hid hl
  have HLN := Lib.hid hl.len
  clear hl
  go_enter Tryd.func14, Tryd.ntmps14
  go_wp2_with fail
  refine (once_any A n c l w hn HL.out).mono ?_
  rintro e w1 ⟨A1, m, c1, rfl, hm, hown, hB1⟩
  have HOW := Lib.hid hown
  clear hown
  go_wp2_with fail
  refine (ordered_any A1 m c1 _ (outF l n) w1 (by omega) HOW.out (outF_nodup l n)).mono ?_
  rintro e w2 ⟨A2, c2, out, rfl, hE, hS, hB2⟩
  have HE := Lib.hid hE
  have HS := Lib.hid (sorts_out HLN.out hS)
  have hB := hB1.trans (hB2.mono hB1.size)
  clear hE hS hB1 hB2 HOW
  go_wp2_with fail
  go_ret
  exact ⟨A2, m, c2, out, rfl, by omega, HE.out, HS.out, hB⟩
end Go.Proofs.YtjafjapnmffohaaDoor
