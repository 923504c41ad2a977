/- Stage 18: the document's Nodes. Condition: at most 1000 slots. -/
import Derived.Test.YtjmpcmgnbamniaaPiB
import Derived.Test.YtjmpcmgnbamniaaNumG
set_option maxRecDepth 100000
namespace Go.Proofs.Ytjmpcmgnbamniaa
open Go.RowKit
set_option linter.unusedVariables false

theorem filter_less {t : List Int} {p q : Int} (hpq : p < q) (h : q ∈ t) : (t.filter fun x => decide (q < x)).length < (t.filter fun x => decide (p < x)).length := by
  induction t with
  | nil => cases h
  | cons a r ih =>
    have key : ∀ s : List Int, (s.filter fun x => decide (q < x)).length ≤ (s.filter fun x => decide (p < x)).length := by
      intro s
      induction s with
      | nil => simp
      | cons b s ih2 =>
        rw [List.filter_cons, List.filter_cons]
        by_cases hb : q < b
        · rw [if_pos (by simpa using hb), if_pos (by simp; omega)]
          simp only [List.length_cons]
          omega
        · rw [if_neg (by simpa using hb)]
          split
          · simp only [List.length_cons]
            omega
          · exact ih2
    rw [List.filter_cons, List.filter_cons]
    rcases List.mem_cons.1 h with rfl | h
    · rw [if_neg (by simp), if_pos (by simpa using hpq)]
      have := key r
      simp only [List.length_cons]
      omega
    · have h2 := ih h
      by_cases hb : q < a
      · rw [if_pos (by simpa using hb), if_pos (by simp; omega)]
        simp only [List.length_cons]
        omega
      · rw [if_neg (by simpa using hb)]
        split
        · simp only [List.length_cons]
          omega
        · exact h2
/-- those of a table up to a number, rising, each once -/
structure UptoP (t out : List Int) (last : Int) : Prop where
  low : 0 ≤ last
  rise : RiseI out
  mem : ∀ x, x ∈ out ↔ x ∈ t ∧ 0 < x ∧ x ≤ last
theorem UptoP.start (t : List Int) : UptoP t [] 0 := ⟨by omega, List.Pairwise.nil, fun x => by simp⟩
theorem UptoP.done {t out : List Int} {last : Int} (h : UptoP t out last) (hn : ∀ x ∈ t, x ≤ last) : out = nodesP t :=
  NodesI.one ⟨h.rise, fun x => (h.mem x).trans ⟨fun h => ⟨h.1, h.2.1⟩, fun h => ⟨h.1, h.2, hn x h.1⟩⟩⟩ (nodesP_nodes t)
theorem UptoP.next {t out : List Int} {last best : Int} (h : UptoP t out last) (hb : last < best) (hm : best ∈ t) (hl : ∀ x ∈ t, last < x → best ≤ x) : UptoP t (out ++ [best]) best := by
  have h0 := h.low
  refine ⟨by omega, ?_, fun x => ?_⟩
  · refine List.pairwise_append.2 ⟨h.rise, by simp, fun a ha b hb2 => ?_⟩
    obtain rfl := List.mem_singleton.1 hb2
    have := (h.mem a).1 ha
    omega
  · rw [List.mem_append, List.mem_singleton, h.mem]
    constructor
    · rintro (⟨h1, h2, h3⟩ | rfl)
      · exact ⟨h1, h2, by omega⟩
      · exact ⟨hm, by omega, by omega⟩
    · rintro ⟨h1, h2, h3⟩
      by_cases h4 : x ≤ last
      · exact .inl ⟨h1, h2, h4⟩
      · have := hl x h1 (by omega)
        exact .inr (by omega)
theorem UptoP.len {t out : List Int} {last : Int} (h : UptoP t out last) : out.length ≤ t.length := by
  have h1 : out.length ≤ (nodesP t).length := by
    have e : out = (nodesP t).filter fun x => decide (x ≤ last) := by
      refine riseI_one _ _ h.rise ((nodesP_nodes t).1.sublist List.filter_sublist) fun y => ?_
      rw [h.mem, List.mem_filter, (nodesP_nodes t).2]
      simp [and_assoc]
    rw [e]
    exact List.length_filter_le _ _
  have := nodesP_len t
  omega
/-- the least one above a number, of the first i: 0, if there is none -/
def BestP (t : List Int) (last : Int) (i : Nat) (best : Int) : Prop := (best = 0 ∧ ∀ j, j < i → t.getD j 0 ≤ last) ∨ (last < best ∧ best ∈ t ∧ ∀ j, j < i → last < t.getD j 0 → best ≤ t.getD j 0)
theorem BestP.skip {t : List Int} {last best : Int} {i : Nat} (h : BestP t last i best) (hx : ¬ last < t.getD i 0) : BestP t last (i + 1) best := by
  rcases h with ⟨h1, h2⟩ | ⟨h1, h2, h3⟩
  · refine .inl ⟨h1, fun j hj => ?_⟩
    by_cases e : j = i
    · rw [e]; omega
    · exact h2 j (by omega)
  · refine .inr ⟨h1, h2, fun j hj hl => ?_⟩
    by_cases e : j = i
    · rw [e] at hl; exact absurd hl hx
    · exact h3 j (by omega) hl
theorem BestP.keep {t : List Int} {last best : Int} {i : Nat} (h : BestP t last i best) (hb : best ≠ 0) (hx : ¬ t.getD i 0 < best) : BestP t last (i + 1) best := by
  rcases h with ⟨h1, h2⟩ | ⟨h1, h2, h3⟩
  · exact absurd h1 hb
  · refine .inr ⟨h1, h2, fun j hj hl => ?_⟩
    by_cases e : j = i
    · rw [e]; omega
    · exact h3 j (by omega) hl
theorem BestP.take_ {t : List Int} {last best : Int} {i : Nat} (h0 : 0 ≤ last) (h : BestP t last i best) (hi : i < t.length) (hx : last < t.getD i 0) (hb : best = 0 ∨ t.getD i 0 < best) : BestP t last (i + 1) (t.getD i 0) := by
  have hm : t.getD i 0 ∈ t := by
    have e : t.getD i 0 = t[i] := by simp [List.getD, hi]
    rw [e]
    exact List.getElem_mem hi
  refine .inr ⟨hx, hm, fun j hj hl => ?_⟩
  by_cases e : j = i
  · rw [e]; omega
  · rcases h with ⟨h1, h2⟩ | ⟨h1, h2, h3⟩
    · have := h2 j (by omega)
      omega
    · have h4 := h3 j (by omega) hl
      rcases hb with hb | hb
      · omega
      · omega

set_option maxHeartbeats 3200000 in
theorem rnodes_any (A : Option Addr) (n c : Nat) (t : List Int) (w : World) (hn : n ≤ 1000) (hb : Ns w w.heap.size A n t) :
    Calls Try.prog 18 #[.slice A n c] w (GivesI w (nodesP t)) := by
  have HB := Lib.hid hb
  have HL := Lib.hid hb.len
  have HAI := Lib.hid hb.all
  clear hb
  obtain ⟨i0, hi, hz0, hz1, hz2⟩ := info_int_partsP
  have HI := Lib.hid hi
  have HZ0 := Lib.hid hz0
  have HZ1 := Lib.hid hz1
  have HZ2 := Lib.hid hz2
  clear hi hz0 hz1 hz2
  have HN0 := Lib.hid (UptoP.start t)
  go_enter Try.func18, Try.ntmps18
  go_wp2_with fail
  go_loopg [3, 4] ((t.filter fun x => decide (0 < x)).length) (fun gk v3 v4 wr => ∃ (out : List Int) (B : Option Addr) (d : Nat) (last : Int), v3 = .slice B out.length d ∧ v4 = .int .i64 last ∧ gk = (t.filter fun x => decide (last < x)).length ∧ Hid (UptoP t out last) ∧ Hid (OwnN 3 wr w.heap.size B out.length d out) ∧ Hid (Ns wr w.heap.size A n t) ∧ Hid (Low w wr))
  case atStart => exact ⟨[], none, 0, 0, rfl, rfl, rfl, HN0, Lib.hid (OwnN.noneP _ _ _), HB, Lib.hid (Low.refl _)⟩
  case round =>
    clear HB HN0
    obtain ⟨out, B, d, last, rfl, rfl, hgk, HU, HO, HB, hL⟩ := hrel
    have HOL := Lib.hid (show out.length ≤ 1000 by have h1 := HU.out.len; rw [HL.out] at h1; omega)
    replace hgk := Lib.hid hgk
    go_wp2_with fail
    obtain ⟨wo, rfl⟩ : ∃ wo, wo = wr := ⟨_, rfl⟩
    go_loop [5, 6] (fun v5 v6 => ∃ (i : Nat) (best : Int), i ≤ n ∧ v6 = .int .i64 i ∧ v5 = .int .i64 best ∧ Hid (BestP t last i best)) (fun _ v => n - (intOf v).toNat)
    case atStart => exact ⟨0, 0, by omega, rfl, rfl, Lib.hid (.inl ⟨rfl, fun j h => by omega⟩)⟩
    case round =>
      obtain ⟨i, best, hi, rfl, rfl, HBE⟩ := hrel
      by_cases hlt : i < n
      · obtain ⟨b, o, rfl, _, hc⟩ := HB.out.at_ hlt
        have c0 := hc i hlt
        have hlt2 : (i : Int) < n := by omega
        clear hc
        have HSK := Lib.hid (@BestP.skip t last best i HBE.out)
        have HKE := Lib.hid (@BestP.keep t last best i HBE.out)
        have HTA := Lib.hid (@BestP.take_ t last best i HU.out.low HBE.out (by rw [HL.out]; exact hlt))
        obtain ⟨x, hx⟩ : ∃ x, x = t.getD i 0 := ⟨_, rfl⟩
        rw [← hx] at c0 HSK HKE HTA
        clear hx
        by_cases h1 : last < x
        · by_cases h2 : best = 0
          · have HR := Lib.hid (HTA.out h1 (.inl h2))
            clear HSK HKE HTA HBE
            subst h2
            go_wp2_with fail
            go_round
            case rel => exact ⟨i + 1, x, by omega, by go_num, rfl, HR⟩
            case measure => simp [intOf]; omega
          · have h2b : (best == 0) = false := by simpa using h2
            by_cases h3 : x < best
            · have HR := Lib.hid (HTA.out h1 (.inr h3))
              clear HSK HKE HTA HBE
              go_wp2_with fail
              go_round
              case rel => exact ⟨i + 1, x, by omega, by go_num, rfl, HR⟩
              case measure => simp [intOf]; omega
            · have HR := Lib.hid (HKE.out h2 h3)
              clear HSK HKE HTA HBE
              go_wp2_with fail
              go_round
              case rel => exact ⟨i + 1, best, by omega, by go_num, rfl, HR⟩
              case measure => simp [intOf]; omega
        · have HR := Lib.hid (HSK.out h1)
          clear HSK HKE HTA HBE
          go_wp2_with fail
          go_round
          case rel => exact ⟨i + 1, best, by omega, by go_num, rfl, HR⟩
          case measure => simp [intOf]; omega
      · obtain rfl : i = n := by omega
        have hlt2 : ¬ (i : Int) < i := by omega
        have hmem : ∀ x ∈ t, ∃ j, j < i ∧ t.getD j 0 = x := fun x hx => by
          obtain ⟨j, hj, e⟩ := List.mem_iff_getElem.1 hx
          exact ⟨j, by rw [← HL.out]; exact hj, by simp [List.getD, hj, e]⟩
        by_cases hb0 : best = 0
        · have HD := Lib.hid (show out = nodesP t from HU.out.done fun x hx => by
            obtain ⟨j, hj, rfl⟩ := hmem x hx
            rcases HBE.out with ⟨h1, h2⟩ | ⟨h1, h2, h3⟩
            · exact h2 j hj
            · have := HU.out.low
              omega)
          have hcap := HO.out.cap.1
          have HNS := Lib.hid (HO.out.bs (Nat.le_refl _))
          have HFR := Lib.hid HO.out.fromI
          clear hmem HBE
          subst hb0
          go_wp2_with fail
          go_ret
          rw [← HD.out]
          exact ⟨B, d, rfl, hcap, HNS.out, HFR.out, hL.out⟩
        · have HBB := Lib.hid (show last < best ∧ best ∈ t ∧ ∀ x ∈ t, last < x → best ≤ x by
            rcases HBE.out with ⟨h1, h2⟩ | ⟨h1, h2, h3⟩
            · exact absurd h1 hb0
            · refine ⟨h1, h2, fun x hx hl => ?_⟩
              obtain ⟨j, hj, rfl⟩ := hmem x hx
              exact h3 j hj hl)
          have HNX := Lib.hid (HU.out.next HBB.out.1 HBB.out.2.1 HBB.out.2.2)
          have HFL := Lib.hid (filter_less HBB.out.1 HBB.out.2.1)
          have hbi := HAI.out best HBB.out.2.1
          have hb2 : (best == 0) = false := by simpa using hb0
          have hlA := Low.alloc wo (.cells #[.int .i64 best] 3)
          have hkA : BlkN (wo.alloc (.cells #[.int .i64 best] 3)) 3 wo.heap.size [best] := BlkN.new wo 3 [best]
          have hbA := hkA.bs (n := 1) (.cons hbi.1 hbi.2 .nil) hkA.lt rfl
          have hO3 := HO.out.below hlA
          have HB3 := Lib.hid (HB.out.below (hlA.mono hL.out.size))
          have HL3 := Lib.hid (hL.out.trans hlA)
          have hszw := hL.out.size
          have hsA : (wo.alloc (.cells #[.int .i64 best] 3)).heap.size = wo.heap.size + 1 := by simp
          have hb5 : w.heap.size ≤ (wo.alloc (.cells #[.int .i64 best] 3)).heap.size := by omega
          have hol := HOL.out
          replace hsA := Lib.hid hsA
          clear hmem HBE HBB hlA hkA hbi HO HB hL HU
          go_wp2_with (at_builtin; refine wpList_append_ns rfl (.tmp 38) (.tmp 40) _ rfl w.heap.size 3 i0 Try.underlying22 HI.out HZ0.out HZ1.out HZ2.out _ out.length d out rfl hO3 _ 1 _ _ [best] rfl hbA (by omega) hb5 ?_; intro A4 c4 w4 hO4 hg4 hb4; refine Hid.out ?_)
          refine Lib.hid ?_
          have HL4 := Lib.hid (show Low w w4 from Below.grown HL3.out hg4 hb5 (fun j hj => (hO3.lt j hj).1))
          have HB4 := Lib.hid (HB3.out.keep (w' := w4) fun p hp => World.cell?_of_block (hg4.block p.block (by omega) (fun e => by have := (hO3.lt _ e.symm).1; omega)))
          have HO4 := Lib.hid (show OwnN 3 w4 w.heap.size A4 (out ++ [best]).length c4 (out ++ [best]) by rw [List.length_append]; exact hO4)
          clear hO4 hg4 hb4 hO3 HB3 HL3 hbA hb5 hsA
          go_wp2_with fail
          go_roundg ((t.filter fun x => decide (best < x)).length)
          case measure => rw [hgk.out]; exact HFL.out
          case rel =>
            first
            | exact ⟨out ++ [best], A4, c4, best, by rw [List.length_append]; rfl, rfl, rfl, HNX, HO4, HB4, HL4⟩
            | ((repeat apply Exists.intro); exact ⟨⟨out ++ [best], A4, c4, best, by rw [List.length_append]; rfl, rfl, rfl, HNX, HO4, HB4, HL4⟩, rfl⟩)
end Go.Proofs.Ytjmpcmgnbamniaa
