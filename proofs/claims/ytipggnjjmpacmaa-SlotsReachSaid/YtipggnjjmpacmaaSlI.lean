/- Stage 21: the program's own table: how it lies; its cells, its homes, how a key is found. No condition but that it lies so. -/
import Derived.Test.YtipggnjjmpacmaaSlC
import Derived.Test.YtipggnjjmpacmaaSlH
import Derived.Test.YtipggnjjmpacmaaMid
import Derived.Test.YtipggnjjmpacmaaJReg
import Derived.Tactics2
import Derived.Defers
import Derived.Recover
import Derived.Laws.Pointers
import Derived.WalkLawsBesides
set_option maxRecDepth 100000
namespace Go.Proofs.Ytipggnjjmpacmaa
open Go.RowKit
set_option linter.unusedVariables false
attribute [local go_sem] Oper.semAt_some

/-- a cell -/
def cellS (n : Nat) : Option (Int × Int) → List Value
  | none => [.bool false, .int .i64 0, .int .i64 0, .int .i64 0]
  | some p => [.bool true, .int .i64 p.1, .int .i64 p.2, .int .i64 (homeS n p.1 : Nat)]
def slE (n : Nat) : Elt (Option (Int × Int)) := ⟨cellS n, fun _ => True, 4, by decide, fun a _ => by cases a <;> rfl, fun a u hu => by
  cases a <;> (simp only [cellS, List.mem_cons, List.not_mem_nil, or_false] at hu; rcases hu with rfl | rfl | rfl | rfl <;> rfl), none, trivial⟩
theorem slE_all (n : Nat) (cs : List (Option (Int × Int))) : (slE n).all cs := fun _ _ => trivial
theorem slcell_size : (Try.prog.info? 50).map (·.size) = some 4 := by kernel_rfl
/-- a table in memory: its head at g, its cells at b -/
structure SlAt (w : World) (g b n : Nat) (cs : List (Option (Int × Int))) : Prop where
  head : BlkV w 47 g [.func (.func 7) #[] #[], .slice (some ⟨b, 0, none⟩) n n]
  row : BlkV w 50 b ((slE n).flat cs)
  len : cs.length = n
  n1 : 1 ≤ n
  n2 : n ≤ 256
section
variable {w w' : World} {g b n : Nat} {cs : List (Option (Int × Int))}
theorem SlAt.low (h : SlAt w g b n cs) (hl : Low w w') : SlAt w' g b n cs := ⟨h.head.below hl h.head.lt, h.row.below hl h.row.lt, h.len, h.n1, h.n2⟩
theorem SlAt.ne (h : SlAt w g b n cs) : g ≠ b := fun e => by
  have h1 := h.head
  rw [e] at h1
  have h2 := h.row
  unfold BlkV at h1 h2
  rw [h1] at h2
  injection h2 with h2
  injection h2 with _ h2 _
  exact absurd h2 (by decide +kernel)
theorem SlAt.free (h : SlAt w g b n cs) {i : Nat} (hi : cs[i]? = some none) : w.cell? ⟨b, i * 4, none⟩ = some (.bool false) ∧ w.cell? ⟨b, i * 4 + 1, none⟩ = some (.int .i64 0) ∧ w.cell? ⟨b, i * 4 + 2, none⟩ = some (.int .i64 0) ∧ w.cell? ⟨b, i * 4 + 3, none⟩ = some (.int .i64 0) := by
  have hr := h.row.eltAt (slE_all n cs) (getS_lt hi)
  have e : cs.getD i (slE n).zero = none := by simp [List.getD, hi]
  rw [e] at hr
  exact ⟨hr 0 _ rfl, hr 1 _ rfl, hr 2 _ rfl, hr 3 _ rfl⟩
theorem SlAt.key (h : SlAt w g b n cs) {i : Nat} {p : Int × Int} (hi : cs[i]? = some (some p)) : w.cell? ⟨b, i * 4, none⟩ = some (.bool true) ∧ w.cell? ⟨b, i * 4 + 1, none⟩ = some (.int .i64 p.1) ∧ w.cell? ⟨b, i * 4 + 2, none⟩ = some (.int .i64 p.2) ∧ w.cell? ⟨b, i * 4 + 3, none⟩ = some (.int .i64 (homeS n p.1 : Nat)) := by
  have hr := h.row.eltAt (slE_all n cs) (getS_lt hi)
  have e : cs.getD i (slE n).zero = some p := by simp [List.getD, hi]
  rw [e] at hr
  exact ⟨hr 0 _ rfl, hr 1 _ rfl, hr 2 _ rfl, hr 3 _ rfl⟩

theorem slcap_any (h : SlAt w g b n cs) : Calls Try.prog 16 #[.pointer (some ⟨g, 0, none⟩)] w fun e w' => e = .returned (.int .i64 (n : Nat)) ∧ w' = w := by
  have c1 : w.cell? ⟨g, 1, none⟩ = some (.slice (some ⟨b, 0, none⟩) n n) := h.head.cell 1
  clear h
  go_enter Try.func16, Try.ntmps16
  go_wp2_with fail
  go_ret
  exact ⟨rfl, rfl⟩
theorem slnext_any (h : SlAt w g b n cs) {i : Nat} (hi : i < n) : Calls Try.prog 24 #[.pointer (some ⟨g, 0, none⟩), .int .i64 i] w fun e w' => e = .returned (.int .i64 ((i + 1) % n : Nat)) ∧ w' = w := by
  have c1 : w.cell? ⟨g, 1, none⟩ = some (.slice (some ⟨b, 0, none⟩) n n) := h.head.cell 1
  have hn := h.n2
  have hnz : ¬ (n : Int) = 0 := by have := h.n1; omega
  clear h
  go_enter Try.func24, Try.ntmps24
  go_wp2_with fail
  go_ret
  exact ⟨ret_i (by show ((i : Int) + 1) % (n : Int) = _; rw [Int.natCast_emod]; rfl), rfl⟩
theorem slfar_any (h : SlAt w g b n cs) {i j : Nat} (hi : i < n) (hj : j < n) : Calls Try.prog 25 #[.pointer (some ⟨g, 0, none⟩), .int .i64 i, .int .i64 j] w fun e w' => e = .returned (.int .i64 (farS n i j : Nat)) ∧ w' = w := by
  have c1 : w.cell? ⟨g, 1, none⟩ = some (.slice (some ⟨b, 0, none⟩) n n) := h.head.cell 1
  have hn := h.n2
  have hnz : ¬ (n : Int) = 0 := by have := h.n1; omega
  have h0 : (0 : Int) ≤ (j : Int) - (i : Int) + (n : Int) := by omega
  clear h
  go_enter Try.func25, Try.ntmps25
  go_wp2_with fail
  go_ret
  refine ⟨ret_i ?_, rfl⟩
  show ((j : Int) - (i : Int) + (n : Int)) % (n : Int) = _
  unfold farS
  rw [Int.natCast_emod]
  congr 1
  omega
set_option maxHeartbeats 1600000 in
set_option maxRecDepth 100000 in
theorem slhome_any (h : SlAt w g b n cs) (k : Int) : Calls Try.prog 22 #[.pointer (some ⟨g, 0, none⟩), .int .i64 k] w fun e w' => e = .returned (.int .i64 (homeS n k : Nat)) ∧ Low w w' := by
  have c0 : w.cell? ⟨g, 0, none⟩ = some (.func (.func 7) #[] #[]) := h.head.cell 0
  have c1 : w.cell? ⟨g, 1, none⟩ = some (.slice (some ⟨b, 0, none⟩) n n) := h.head.cell 1
  have hn := h.n2
  have hnz : ¬ (n : Int) = 0 := by have := h.n1; omega
  have hh := hashS_le k
  have HW := Lib.hid (show IntKind.u64.wrap (n : Int) = n from wraps_u64 _ (by omega) (by omega))
  have HE := Lib.hid (show (hashS k : Int).tmod (n : Int) = ((homeS n k : Nat) : Int) from Int.ofNat_tmod _ _)
  have HB := Lib.hid (show homeS n k < 256 by have := homeS_lt (show 0 < n from h.n1) k; omega)
  generalize homeS n k = r at *
  have HS := Lib.hid (show hashS k = hashS k from rfl)
  go_enter Try.func22, Try.ntmps22
  go_wp2_with fail
  have HH := Lib.hid h.head
  clear h c0 c1
  refine wp_region_planN (fun y => BlkV y 47 g [.func (.func 7) #[] #[], .slice (some ⟨b, 0, none⟩) n n]) (.rd 0 (.rd 1 (.rd 2 (.rd 3 (.rd 4 (.rd 6 (.rd 7 (.rd 8 (.rd 9 (.rd 10 (.rd 11 (.act 5 (.rd 12 (.rd 13 (.rd 14 (.done))))))))))))))))
    (by kernel_rfl) (by kernel_rfl) (by kernel_rfl) HH.out ?_
  replace HH : Hid (BlkV w.drew 47 g [.func (.func 7) #[] #[], .slice (some ⟨b, 0, none⟩) n n]) := HH
  have HL := Lib.hid (show Low w w.drew from Below.drew (Below.refl _ w))
  generalize w.drew = w5 at *
  iterate 10 (refine walkS_read (v := _) rfl (by rfl) (by
    intro y hy
    have q0 : y.cell? ⟨g, 0, none⟩ = some (.func (.func 7) #[] #[]) := hy.cell 0
    have q1 : y.cell? ⟨g, 1, none⟩ = some (.slice (some ⟨b, 0, none⟩) n n) := hy.cell 1
    clear hy
    first
                 | (go_simp; try rfl)) ?_; simp only [Act.put, List.setIfInBounds_toArray, List.set_cons_zero, List.set_cons_succ])
  have hw1 := HW.out
  refine walkS_read (v := .int .u64 n) rfl (by rfl) (by intro y hy; clear hy; go_simp; try rfl) ?_
  simp only [Act.put, List.setIfInBounds_toArray, List.set_cons_zero, List.set_cons_succ]
  refine walkS_act rfl (by rfl) (fun K hK => ?_)
  go_simp
  refine (rhashS_any k w5).mono ?_
  rintro e w6 ⟨rfl, rfl⟩
  go_simp
  refine hK _ _ HH.out ?_
  clear hK K
  have hz : ¬ n = 0 := by omega
  have he1 := HE.out
  have hw2 : IntKind.i64.wrap (r : Int) = r := by rw [IntKind.wrap_i64]; have := HB.out; omega
  refine walkS_read (v := .int .u64 r) rfl (by rfl) (by intro y hy; clear hy; go_simp; try rfl) ?_
  simp only [Act.put, List.setIfInBounds_toArray, List.set_cons_zero, List.set_cons_succ]
  refine walkS_read (v := .int .i64 r) rfl (by rfl) (by intro y hy; clear hy; go_simp; try rfl) ?_
  simp only [Act.put, List.setIfInBounds_toArray, List.set_cons_zero, List.set_cons_succ]
  refine walkS_read (v := _) rfl (by rfl) (by intro y hy; clear hy; go_simp; try rfl) ?_
  simp only [Act.put, List.setIfInBounds_toArray, List.set_cons_zero, List.set_cons_succ]
  unfold walkS orThrow
  dsimp only
  go_wp2_with fail
  go_ret
  exact ⟨rfl, HL.out⟩
end
end Go.Proofs.Ytipggnjjmpacmaa
