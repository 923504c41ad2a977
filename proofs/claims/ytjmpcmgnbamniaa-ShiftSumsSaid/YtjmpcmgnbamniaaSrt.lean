/- Slices of elements of any make as the library's sort sees them; what is sorted is the list in order. No program here; no condition. -/
import Derived.Test.YtjmpcmgnbamniaaEl
import Derived.Test.YtjmpcmgnbamniaaExt
import Derived.Shelf.SlSortCmp.WholeK
import Derived.Shelf.SlSortCmp.NoneTotal
import Derived.Lib.SliceRun
set_option maxRecDepth 100000
namespace Go.Proofs.Ytjmpcmgnbamniaa
open Go.RowKit
set_option linter.unusedVariables false

section
variable {α : Type} (E : Elt α)
abbrev OkS : Type := {a : α // E.ok a}
instance instOkS : Inhabited (OkS E) := ⟨⟨E.zero, E.zok⟩⟩
def encS (a : OkS E) : List Value := E.cells a.1
theorem allS (ls : List (OkS E)) : E.all (ls.map (·.1)) := fun a ha => by
  obtain ⟨x, _, rfl⟩ := List.mem_map.1 ha
  exact x.2
theorem flat_flatS (ls : List (OkS E)) (j : Nat) (hj : j < ls.length * E.k) : (E.flat (ls.map (·.1)))[j]? = some ((Go.Sort.flatK (encS E) E.k ls.toArray)[j]!) := by
  have hk := E.pos
  rw [Go.Sort.get_flatK _ _ _ _ (by simpa using hj)]
  have hi : j / E.k < ls.length := Nat.div_lt_of_lt_mul (by rw [Nat.mul_comm]; exact hj)
  have h := Elt.flat_get (E := E) (l := ls.map (·.1)) (allS E ls) (i := j / E.k) (j := j % E.k) (by simpa using hi) (Nat.mod_lt _ hk)
  rw [show j / E.k * E.k + j % E.k = j from Nat.div_add_mod' j E.k] at h
  have e1 : (ls.map (·.1)).getD (j / E.k) E.zero = (ls[j / E.k]).1 := by simp [List.getD, hi]
  have e2 : ls.toArray[j / E.k]! = ls[j / E.k] := by rw [getElem!_pos _ _ (by simpa using hi)]; simp
  have hm : j % E.k < (E.cells (ls[j / E.k]).1).length := by rw [E.len _ (ls[j / E.k]).2]; exact Nat.mod_lt _ hk
  rw [h, e1, e2]
  show (E.cells (ls[j / E.k]).1)[j % E.k]? = some ((E.cells (ls[j / E.k]).1)[j % E.k]!)
  rw [List.getElem?_eq_getElem hm, getElem!_pos (E.cells (ls[j / E.k]).1) (j % E.k) hm]
variable {E}
theorem holdsS {t : TypeId} {w : World} {base g n c : Nat} {ls : List (OkS E)} (h : OwnE E t w base (some ⟨g, 0, none⟩) n c (ls.map (·.1))) : Go.Sort.HoldsK (encS E) E.k w g 0 ls.toArray := fun j hj => by
  have hj' : j < ls.length * E.k := by simpa using hj
  constructor
  · have := World.ownsRow.cells h.1 (g := g) rfl j _ (flat_flatS E ls j hj')
    simpa [Addr.add_lit] using this
  · obtain ⟨⟨h1, h2⟩, _⟩ := h
    rcases h2 with ⟨e, h0⟩ | ⟨g', cap, cur, hv, hbg, hg, hnc, hcm, hsz, htk⟩
    · cases e
    · injection hv with hA hn' hc'
      injection hA with hA
      injection hA with hA _ _
      subst hA
      simp [World.frozen?, hg]
theorem sortS_low {β : Type} [Inhabited β] (enc : β → List Value) (k : Nat) (w : World) (g o m : Nat) (d : Array β) (os : Array Obj) {B : Nat} (hg : g < w.heap.size) (hB : B ≤ g) : Below B w (sortWorldK enc k w g o m d os) := by
  unfold sortWorldK
  refine ⟨rfl, rfl, rfl, by simp [Go.Sort.putRowK, Go.Sort.ahead], fun j hj => ?_⟩
  rw [Go.Sort.heap_grow_old _ _ (by simp [Go.Sort.putRowK, Go.Sort.ahead]; omega)]
  simp only [Go.Sort.putRowK, Go.Sort.putRow, Go.Sort.mapBlock, Array.getElem?_modify]
  rw [if_neg (by omega)]
  rfl
theorem sortS_block {β : Type} [Inhabited β] (enc : β → List Value) (k : Nat) (w : World) (g o m : Nat) (d : Array β) (os : Array Obj) (j : Nat) (hj : j < w.heap.size) (hne : j ≠ g) : (sortWorldK enc k w g o m d os).heap[j]? = w.heap[j]? := by
  unfold sortWorldK
  rw [Go.Sort.heap_grow_old _ _ (by simp [Go.Sort.putRowK, Go.Sort.ahead]; omega)]
  simp only [Go.Sort.putRowK, Go.Sort.putRow, Go.Sort.mapBlock, Array.getElem?_modify]
  rw [if_neg (by omega)]
  rfl
theorem sortS_es (w : World) (g m : Nat) (ls : List (OkS E)) (d : Array (OkS E)) (os : Array Obj) (hg : g < w.heap.size) (hH : Go.Sort.HoldsK (encS E) E.k w g 0 ls.toArray) (hs : d.size = ls.length) :
    Es E (sortWorldK (encS E) E.k w g 0 m d os) (sortWorldK (encS E) E.k w g 0 m d os).heap.size (some ⟨g, 0, none⟩) ls.length (d.toList.map (·.1)) := by
  have hlt : g < (sortWorldK (encS E) E.k w g 0 m d os).heap.size := Nat.lt_of_lt_of_le hg (sortS_low (encS E) E.k w g 0 m d os hg (Nat.le_refl _)).size
  refine Es.of_cells (by simp [hs]) (allS E _) hlt fun j v hv => ?_
  have hj : j < d.size * E.k := by
    have h1 := (List.getElem?_eq_some_iff.1 hv).1
    rw [Elt.flat_len (E := E) (allS E _)] at h1
    simpa using h1
  have e := flat_flatS E d.toList j (by simpa using hj)
  rw [hv] at e
  rw [Option.some.inj e]
  unfold sortWorldK
  rw [Go.Sort.cell?_grow _ _ _ (by simp [Go.Sort.putRowK]; exact hg)]
  exact Go.Sort.cell?_putRow id (Go.Sort.ahead w m) g 0 (Go.Sort.flatK (encS E) E.k ls.toArray) (Go.Sort.flatK (encS E) E.k d) hH (by simp [hs]) j (by simpa using hj)
/-- what is sorted has the elements of the list -/
theorem permS {ls : List (OkS E)} {d : Array (OkS E)} (hp : Go.Sort.PermIn 0 ls.toArray.size ls.toArray d) : d.size = ls.length ∧ d.toList.Perm ls := by
  obtain ⟨h1, _, h3⟩ := hp
  refine ⟨by simpa using h1, ?_⟩
  have e1 : d.extract 0 ls.toArray.size = d := by rw [← h1]; exact Array.extract_size
  have e2 : ls.toArray.extract 0 ls.toArray.size = ls.toArray := Array.extract_size
  rw [e1, e2] at h3
  simpa using h3
theorem ofS {l : List α} (h : ∀ x ∈ l, E.ok x) : ∃ ls : List (OkS E), ls.map (·.1) = l := ⟨l.pmap (fun a ha => ⟨a, ha⟩) h, by rw [List.map_pmap]; simp⟩
end
end Go.Proofs.Ytjmpcmgnbamniaa
