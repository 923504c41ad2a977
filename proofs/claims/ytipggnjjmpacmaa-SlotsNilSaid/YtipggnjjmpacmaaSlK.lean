/- Stage 21: the program's own table: what a cell tells; a key put; a table made; one that no call made. No condition but that it lies so. -/
import Derived.Test.YtipggnjjmpacmaaSlJ
import Derived.Laws.MakeOwn
set_option maxRecDepth 100000
namespace Go.Proofs.Ytipggnjjmpacmaa
open Go.RowKit
set_option linter.unusedVariables false
attribute [local go_sem] Oper.semAt_some

theorem slcell_zero : (Try.prog.info? 50).map (·.zero) = some (some (.agg #[.bool false, .int .i64 0, .int .i64 0, .int .i64 0])) := by kernel_rfl
/-- what Cell tells -/
def outK : Option (Int × Int) → Value
  | none => .tuple #[.int .i64 0, .int .i64 0, .bool false]
  | some p => .tuple #[.int .i64 p.1, .int .i64 p.2, .bool true]
section
variable {w w' : World} {g b n : Nat} {cs : List (Option (Int × Int))}
set_option maxHeartbeats 1600000 in
set_option maxRecDepth 100000 in
theorem slcell_in (h : SlAt w g b n cs) {i : Nat} (hi : i < n) : Calls Try.prog 17 #[.pointer (some ⟨g, 0, none⟩), .int .i64 i] w fun e w' => e = .returned (outK (cs.getD i none)) ∧ Low w w' := by
  have HT := Lib.hid h
  have hi2 : (i : Int) < n := by omega
  have hi0 : (0 : Int) ≤ i := by omega
  have hn := h.n2
  clear h
  go_enter Try.func17, Try.ntmps17
  go_wp2_with (with_reducible refine wpList_alloc_v rfl _ rfl _ slcell_zero ?_; intro w2 h2 hl2 hz2; refine Hid.out ?_)
  refine Lib.hid ?_
  have T2 := Lib.hid (HT.out.low hl2)
  have HC := Lib.hid (slcap_any T2.out)
  have c1 : w2.cell? ⟨g, 1, none⟩ = some (.slice (some ⟨b, 0, none⟩) n n) := T2.out.head.cell 1
  have H2 := Lib.hid h2
  have HL := Lib.hid hl2
  have hlen := T2.out.len
  clear h2 hl2 HT
  go_wp2_with fail
  refine HC.out.mono ?_
  rintro e w3 ⟨rfl, rfl⟩
  go_wp2_with (first
    | (refine wpList_load_elt (E := slE n) rfl _ _ rfl i rfl T2.out.row (slE_all _ _) (by omega) _ Try.underlying50 rfl slcell_size ?_; refine Hid.out ?_))
  have hil : i < cs.length := by omega
  have HX := Lib.hid (show ∃ u a c d, (slE n).cells cs[i] = [.bool u, .int .i64 a, .int .i64 c, .int .i64 d] ∧ outK (cs.getD i none) = .tuple #[.int .i64 a, .int .i64 c, .bool u] by
    rw [show cs.getD i none = cs[i] by simp [List.getD, hil]]
    cases cs[i] with
    | none => exact ⟨false, 0, 0, 0, rfl, rfl⟩
    | some p => exact ⟨true, p.1, p.2, _, rfl, rfl⟩)
  obtain ⟨u, x, y, z, hx, ho⟩ := HX.out
  refine Lib.hid ?_
  have HO := Lib.hid ho
  have HXX := Lib.hid hx
  clear hx ho HX
  go_wp2_with (refine wpList_store_vq rfl _ _ _ rfl w.heap.size rfl ((slE n).cells cs[i]) rfl _ _ H2.out ((slE n).len _ trivial).symm (by rw [(slE n).len _ trivial]; exact slcell_size) (all_oneCell_toArray ((slE n).one _)) ?_; intro w5 h5 hb5 hz5 ho5; refine Hid.out ?_)
  refine Lib.hid ?_
  rw [HXX.out] at h5
  have q0 : w5.cell? ⟨w.heap.size, 0, none⟩ = some (.bool u) := h5.cell 0
  have q1 : w5.cell? ⟨w.heap.size, 1, none⟩ = some (.int .i64 x) := h5.cell 1
  have q2 : w5.cell? ⟨w.heap.size, 2, none⟩ = some (.int .i64 y) := h5.cell 2
  have HL5 := Lib.hid (Below.trans HL.out hb5)
  clear h5 hb5 ho5 HL H2 T2 HC c1
  go_wp2_with fail
  go_quiet (fail)
  go_wp2_with fail
  go_ret3
  exact ⟨HO.out ▸ rfl, below_drewN HL5.out _⟩
set_option maxHeartbeats 1600000 in
set_option maxRecDepth 100000 in
theorem slcell_off (p : Option Addr) (n : Nat) (i : Int) (w : World) (hn : n ≤ 256) (hC : ∀ w' : World, Low w w' → Calls Try.prog 16 #[.pointer p] w' fun e w'' => e = .returned (.int .i64 (n : Nat)) ∧ w'' = w') (hi : i < 0 ∨ (n : Int) ≤ i) :
    Calls Try.prog 17 #[.pointer p, .int .i64 i] w fun e w' => e = .returned (outK none) ∧ Low w w' := by
  have HC := Lib.hid hC
  clear hC
  go_enter Try.func17, Try.ntmps17
  go_wp2_with (with_reducible refine wpList_alloc_v rfl _ rfl _ slcell_zero ?_; intro w5 h5 hl2 hz2; refine Hid.out ?_)
  refine Lib.hid ?_
  have q0 : w5.cell? ⟨w.heap.size, 0, none⟩ = some (.bool false) := h5.cell 0
  have q1 : w5.cell? ⟨w.heap.size, 1, none⟩ = some (.int .i64 0) := h5.cell 1
  have q2 : w5.cell? ⟨w.heap.size, 2, none⟩ = some (.int .i64 0) := h5.cell 2
  have HL5 := Lib.hid hl2
  clear h5 hl2 hz2
  by_cases h0 : (0 : Int) ≤ i
  · have h1 : ¬ i < n := by omega
    have HCC := Lib.hid (HC.out w5 HL5.out)
    clear HC
    go_wp2_with fail
    refine HCC.out.mono ?_
    rintro e w3 ⟨rfl, rfl⟩
    go_wp2_with fail
    go_quiet (fail)
    go_wp2_with fail
    go_ret3
    exact ⟨rfl, below_drewN HL5.out _⟩
  · clear HC
    go_wp2_with fail
    go_quiet (fail)
    go_wp2_with fail
    go_ret3
    exact ⟨rfl, below_drewN HL5.out _⟩

/-- a table of free cells -/
theorem slnew_zeroes (n : Nat) : (madeCells #[.bool false, .int .i64 0, .int .i64 0, .int .i64 0] (n * 4)).toList = (slE n).flat (List.replicate n none) := madeCells_flat (slE n) none trivial n
theorem slinfo_cell : (Try.prog.info? 50).map (fun i => (i.zero, i.size, i.bytes)) = some (some (.agg #[.bool false, .int .i64 0, .int .i64 0, .int .i64 0]), 4, 32) := by kernel_rfl
theorem slinfo_parts : ∃ i, Try.prog.info? 50 = some i ∧ i.zero = some (.agg #[.bool false, .int .i64 0, .int .i64 0, .int .i64 0]) ∧ i.size = 4 ∧ i.bytes = 32 := by
  have h := slinfo_cell
  cases hi : Try.prog.info? 50 with
  | none => simp [hi] at h
  | some i =>
    simp [hi] at h
    exact ⟨i, rfl, h.1, h.2.1, h.2.2⟩
set_option maxHeartbeats 1600000 in
theorem slmake_any (n : Nat) (w : World) (h1 : 1 ≤ n) (h2 : n ≤ 256) : Calls Try.prog 6 #[.int .i64 n, .func (.func 7) #[] #[]] w fun e w' =>
    e = .returned (.pointer (some ⟨w.heap.size + 1, 0, none⟩)) ∧ SlAt w' (w.heap.size + 1) w.heap.size n (List.replicate n none) ∧ Low w w' := by
  obtain ⟨i0, hi, hz0, hz1, hz2⟩ := slinfo_parts
  have hmk : ∀ u : World, (Instr.makeSlice 45 (.int .i64 (n : Int)) (.int .i64 (n : Int))).run Try.prog u = .ok (.slice (some ⟨u.heap.size, 0, none⟩) n n) (u.alloc (.cells ((slE n).flat (List.replicate n none)).toArray 50)) := fun u => by
    have h := run_make (P := Try.prog) u 45 50 i0 (.agg #[.bool false, .int .i64 0, .int .i64 0, .int .i64 0]) Try.underlying45 hi hz0 .i64 .i64 (n : Int) (n : Int) (by omega) (Int.le_refl _) (by rw [hz2]; omega) (by omega)
    rw [← slnew_zeroes, Array.toArray_toList]
    simpa [hz1, Value.cells] using h
  have g1 : ¬ (n : Int) < 1 := by omega
  have hcmp : ∀ u : World, (binOp .eql 25 (.func (.func 7) #[] #[]) .nilFunc).run Try.prog u = .ok (.bool false) u := fun _ => by kernel_rfl
  have g2 : ¬ (256 : Int) < n := by omega
  have HB := Lib.hid (show BlkV (w.alloc (.cells ((slE n).flat (List.replicate n none)).toArray 50)) 50 w.heap.size _ from BlkV.new w _ _)
  have HL := Lib.hid (Low.alloc w (.cells ((slE n).flat (List.replicate n none)).toArray 50))
  have hsz : (w.alloc (.cells ((slE n).flat (List.replicate n none)).toArray 50)).heap.size = w.heap.size + 1 := by simp
  clear hi hz0 hz1 hz2
  go_enter Try.func6, Try.ntmps6
  go_wp2_with fail
  generalize w.alloc (.cells ((slE n).flat (List.replicate n none)).toArray 50) = w1 at *
  have hl2 := Low.alloc w1 (.cells #[.func (.func 7) #[] #[], .slice (some ⟨w.heap.size, 0, none⟩) n n] 47)
  have hb2 := BlkV.new w1 47 [.func (.func 7) #[] #[], .slice (some ⟨w.heap.size, 0, none⟩) n n]
  rw [hsz] at hb2
  go_ret
  exact ⟨rfl, ⟨hb2, HB.out.below hl2 (by omega), by simp, h1, h2⟩, HL.out.trans hl2⟩
theorem slmakeNot_any (n : Int) (w : World) (hn : i64ok n) (h : ¬ (1 ≤ n ∧ n ≤ 256)) : Calls Try.prog 6 #[.int .i64 n, .func (.func 7) #[] #[]] w fun e w' => e = .returned (.pointer none) ∧ Low w w' := by
  go_enter Try.func6, Try.ntmps6
  by_cases h1 : n < 1
  · go_wp2_with fail
    go_ret
    exact ⟨rfl, Low.refl _⟩
  · have h2 : (256 : Int) < n := by omega
    go_wp2_with fail
    go_ret
    exact ⟨rfl, Low.refl _⟩
/-- what Put does -/
def PutS (w : World) (g b n : Nat) (cs : List (Option (Int × Int))) (k v : Int) (e : Ending) (w' : World) : Prop := e = .returned (.bool (mayS (pairsS cs) n k)) ∧
    ∃ cs', SlAt w' g b n cs' ∧ StS n (homeS n) cs' ∧ (pairsS cs').Perm (if mayS (pairsS cs) n k = true then (k, v) :: outS (pairsS cs) k else pairsS cs) ∧ Out (fun x => x = g ∨ x = b) w w'
set_option maxHeartbeats 1600000 in
/-- a key put -/
theorem slput_any (h : SlAt w g b n cs) (hs : StS n (homeS n) cs) (k v : Int) (hk : i64ok k) (hv : i64ok v) : Calls Try.prog 9 #[.pointer (some ⟨g, 0, none⟩), .int .i64 k, .int .i64 v] w (PutS w g b n cs k v) := by
  have HF := Lib.hid (slfind_any h k)
  have hh := homeS_lt (show 0 < n from h.n1) k
  have HT := Lib.hid h
  have hlen := h.len
  have hn1 := h.n1
  have hn2 := h.n2
  have HK := Lib.hid (show OkS (k, v) from ⟨hk, hv⟩)
  clear h hk hv
  go_enter Try.func9, Try.ntmps9
  go_wp2_with fail
  refine HF.out.mono ?_
  rintro e w2 ⟨at_, there, rfl, hfo, hl⟩
  have HL := Lib.hid hl
  have T2 := Lib.hid (HT.out.low hl)
  have c1 : w2.cell? ⟨g, 1, none⟩ = some (.slice (some ⟨b, 0, none⟩) n n) := T2.out.head.cell 1
  have HGO := Lib.hid (show (∃ i : Nat, i < n ∧ at_ = i ∧ StS n (homeS n) (cs.set i (some (k, v))) ∧ (pairsS (cs.set i (some (k, v)))).Perm ((k, v) :: outS (pairsS cs) k) ∧ mayS (pairsS cs) n k = true) ∨ (at_ = -1 ∧ mayS (pairsS cs) n k = false) by
    rcases hfo with ⟨i, v0, hi, rfl, rfl, hc⟩ | ⟨j, hj, rfl, rfl, hw, hf⟩ | ⟨rfl, rfl, hw⟩
    · exact .inl ⟨i, hi, rfl, hs.putOld hc HK.out⟩
    · exact .inl ⟨_, Nat.mod_lt _ hn1, rfl, hs.putNew hh hw hj hf HK.out⟩
    · obtain ⟨a1, a2⟩ := hs.notFull hh hw
      exact .inr ⟨rfl, by unfold mayS; rw [a1, a2]; simp⟩)
  have HS := Lib.hid hs
  clear hfo hl HT HF hs
  rcases HGO.out with ⟨i, hi, rfl, h1, h2, h3⟩ | ⟨rfl, h3⟩
  · have H1 := Lib.hid h1
    have H2 := Lib.hid h2
    have H3 := Lib.hid h3
    have hi2 : (i : Int) < n := by omega
    have hne : ((i : Int) == -1) = false := by simp
    clear h1 h2 h3 HGO
    go_wp2_with (refine wpList_store_elt (E := slE n) rfl _ _ _ rfl i rfl (some (k, v)) rfl T2.out.row (slE_all _ _) trivial (by omega) slcell_size ?_; intro w5 h5 hb5 hz5 ho5; refine Hid.out ?_)
    refine Lib.hid ?_
    have HN := T2.out.ne
    have hh5 := T2.out.head.same (ho5 g HN)
    have HO := Lib.hid (show Out (fun x => x = g ∨ x = b) w w5 from ⟨hb5.os.trans HL.out.os, hb5.tape.trans HL.out.tape, hb5.output.trans HL.out.output, by have := HL.out.size; omega, fun x hx hF => (ho5 x (fun e => hF (.inr e))).trans (HL.out.block x hx)⟩)
    have HA := Lib.hid (show SlAt w5 g b n (cs.set i (some (k, v))) from ⟨hh5, h5, by rw [List.length_set]; exact hlen, hn1, hn2⟩)
    clear h5 hb5 hz5 ho5 hh5 c1 T2 HL
    go_wp2_with fail
    go_ret
    refine ⟨?_, _, HA.out, H1.out, ?_, HO.out⟩
    · rw [H3.out]; try rfl
    · rw [H3.out, if_pos rfl]; exact H2.out
  · have H3 := Lib.hid h3
    clear h3 HGO
    go_wp2_with fail
    go_ret
    refine ⟨?_, cs, T2.out, HS.out, ?_, Out.low HL.out⟩
    · rw [H3.out]; try rfl
    · rw [H3.out, if_neg (by simp)]
end
end Go.Proofs.Ytipggnjjmpacmaa
