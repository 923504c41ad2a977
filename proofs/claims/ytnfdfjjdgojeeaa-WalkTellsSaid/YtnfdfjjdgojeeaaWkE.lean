/- What the document's own Walk tells; what walk.Find and walk.Upper tell of any headers; what the laws' own small test answers: true. Condition: at most 2^47 bytes, 2^47 headers. -/
import Derived.Test.YtnfdfjjdgojeeaaWkD
import Derived.Test.YtnfdfjjdgojeeaaVals
namespace Go.Proofs.Ytnfdfjjdgojeeaa
open Go.RowKit
set_option linter.unusedVariables false

set_option maxHeartbeats 400000 in
theorem rwalk_any (A : Option Addr) (n c : Nat) (xs : List Int) (next at_ : Int) (w : World) (hn : n ≤ 140737488355328) (hb : Bs w w.heap.size A n xs) (hx : i64ok next) (ha : i64ok at_) :
    Calls Try.prog 7 #[.slice A n c, .int .i64 next, .int .i64 at_, .int .i64 0] w (GivesW w (walkL xs next at_)) := by
  by_cases h : at_ < 0 ∨ (n : Int) < at_
  · have HX := Lib.hid (show walkL xs next at_ = ([], 2) by unfold walkL; rw [hb.len, if_pos h])
    unfold i64ok at ha hx
    by_cases h0 : at_ < 0
    · clear h
      go_enter Try.func7, Try.ntmps7
      go_wp2_with fail
      go_ret2
      exact GivesW.err 2 HX.out (Below.refl _ _)
    · have h1 : (n : Int) < at_ := by omega
      clear h
      go_enter Try.func7, Try.ntmps7
      go_wp2_with fail
      go_ret2
      exact GivesW.err 2 HX.out (Below.refl _ _)
  · obtain ⟨a, rfl⟩ : ∃ a : Nat, at_ = a := ⟨at_.toNat, by omega⟩
    have e : walkL xs next a = walkR xs 8 next a := by unfold walkL; rw [hb.len, if_neg h]; rfl
    rw [e]
    exact rwalk_in A n c xs hn 8 next a 0 a 0 w rfl rfl rfl (by omega) hx hb

/-- v is the first place, from lo on, of a header of kind k; below 0: there is none -/
def IsFirst (ps : List Pt) (k : Int) (lo : Nat) (v : Int) : Prop :=
  (v = -1 ∧ ∀ j, lo ≤ j → j < ps.length → (ps.getD j zeroP).k ≠ k) ∨ (∃ i : Nat, v = i ∧ lo ≤ i ∧ i < ps.length ∧ (ps.getD i zeroP).k = k ∧ ∀ j, lo ≤ j → j < i → (ps.getD j zeroP).k ≠ k)
theorem IsFirst.one {ps : List Pt} {k : Int} {lo : Nat} {v u : Int} (h : IsFirst ps k lo v) (h' : IsFirst ps k lo u) : v = u := by
  rcases h with ⟨rfl, h⟩ | ⟨i, rfl, hi, hl, hk, h⟩
  · rcases h' with ⟨rfl, _⟩ | ⟨j, rfl, hj, hjl, hjk, _⟩
    · rfl
    · exact absurd hjk (h j hj hjl)
  · rcases h' with ⟨rfl, h'⟩ | ⟨j, rfl, hj, hjl, hjk, h'⟩
    · exact absurd hk (h' i hi hl)
    · rcases Nat.lt_trichotomy i j with h1 | h1 | h1
      · exact absurd hk (h' i hi h1)
      · rw [h1]
      · exact absurd hjk (h j hj h1)
theorem IsFirst.range {ps : List Pt} {k : Int} {lo : Nat} {v : Int} (h : IsFirst ps k lo v) : -1 ≤ v ∧ v < ps.length ∨ v = -1 := by
  rcases h with ⟨rfl, h⟩ | ⟨i, rfl, hi, hl, hk, h⟩
  · exact .inr rfl
  · exact .inl (by omega)
theorem IsFirst.end_ (ps : List Pt) (k : Int) (lo : Nat) (h : ps.length ≤ lo) : IsFirst ps k lo (-1) := .inl ⟨rfl, fun j h1 h2 => by omega⟩
theorem IsFirst.here {ps : List Pt} {k : Int} {i : Nat} (hi : i < ps.length) (hk : (ps.getD i zeroP).k = k) : IsFirst ps k i i := .inr ⟨i, rfl, Nat.le_refl _, hi, hk, fun j h1 h2 => by omega⟩
theorem IsFirst.back {ps : List Pt} {k : Int} {lo : Nat} {v : Int} (h : IsFirst ps k (lo + 1) v) (hk : (ps.getD lo zeroP).k ≠ k) : IsFirst ps k lo v := by
  have e : ∀ j, lo ≤ j → j = lo ∨ lo + 1 ≤ j := fun j h => by omega
  rcases h with ⟨rfl, h⟩ | ⟨i, rfl, hi, hl, hki, h⟩
  · refine .inl ⟨rfl, fun j h1 h2 => ?_⟩
    rcases e j h1 with rfl | h3
    · exact hk
    · exact h j h3 h2
  · refine .inr ⟨i, rfl, by omega, hl, hki, fun j h1 h2 => ?_⟩
    rcases e j h1 with rfl | h3
    · exact hk
    · exact h j h3 h2
theorem IsFirst.from0 {ps : List Pt} {k : Int} {lo : Nat} {v : Int} (h : IsFirst ps k lo v) (hk : ∀ j, j < lo → (ps.getD j zeroP).k ≠ k) : IsFirst ps k 0 v := by
  rcases h with ⟨rfl, h⟩ | ⟨i, rfl, hi, hl, hki, h⟩
  · exact .inl ⟨rfl, fun j _ h2 => by rcases Nat.lt_or_ge j lo with h3 | h3; exact hk j h3; exact h j h3 h2⟩
  · exact .inr ⟨i, rfl, Nat.zero_le _, hl, hki, fun j _ h2 => by rcases Nat.lt_or_ge j lo with h3 | h3; exact hk j h3; exact h j h3 h2⟩

set_option maxHeartbeats 400000 in
theorem find1_any (p : Pt) (g : Nat) (k : Int) (w : World) (hg : w.cell? ⟨g, 0, none⟩ = some (.int .i64 k)) :
    Calls Try.prog 13 #[.agg #[.int .i64 p.k, .int .i64 p.a, .int .i64 p.l], .pointer (some ⟨g, 0, none⟩)] w fun e w' => e = .returned (.bool (p.k == k)) ∧ Below w.heap.size w w' := by
  have hlt : g < w.heap.size := World.block_lt_of_cell? _ _ hg
  have hl := Low.alloc w (.cells #[.int .i64 p.k, .int .i64 p.a, .int .i64 p.l] 31)
  have hg2 := (Below.cell hl (p := ⟨g, 0, none⟩) hlt).trans hg
  go_enter Try.func13, Try.ntmps13
  go_wp2_with fail
  go_ret
  exact ⟨rfl, hl⟩

set_option maxHeartbeats 800000 in
theorem idxf_any (A : Option Addr) (n c : Nat) (ps : List Pt) (g : Nat) (k : Int) (w : World) (hn : n ≤ 140737488355328) (hp : Ps w w.heap.size A n ps) (hg : w.cell? ⟨g, 0, none⟩ = some (.int .i64 k)) :
    Calls Try.prog 12 #[.slice A n c, .func (.func 13) #[] #[.pointer (some ⟨g, 0, none⟩)]] w fun e w' => (∃ v, e = .returned (.int .i64 v) ∧ IsFirst ps k 0 v) ∧ Below w.heap.size w w' := by
  have hlt : g < w.heap.size := World.block_lt_of_cell? _ _ hg
  go_enter Try.func12, Try.ntmps12
  go_wp2_with fail
  go_loopw [8] (fun i wr => ∃ m : Nat, m ≤ n ∧ i = .int .i64 m ∧ Below w.heap.size w wr ∧ Hid (∀ j, j < m → (ps.getD j zeroP).k ≠ k)) (fun i _ => n - (intOf i).toNat)
  case atStart => exact ⟨0, Nat.zero_le _, rfl, Below.refl _ _, Lib.hid fun j h => by omega⟩
  case round =>
    obtain ⟨m, hm, rfl, hB, HE⟩ := hrel
    by_cases hmn : m < n
    · obtain ⟨b, o, rfl, hbl, hc⟩ := hp.mem (by omega)
      obtain ⟨q1, q2, q3⟩ := hc m hmn
      have c1 := (hB.cell (p := ⟨b, o + m * 3, none⟩) hbl).trans q1
      have c2 := (hB.cell (p := ⟨b, o + m * 3 + 1, none⟩) hbl).trans q2
      have c3 := (hB.cell (p := ⟨b, o + m * 3 + 2, none⟩) hbl).trans q3
      have hgr := (hB.cell (p := ⟨g, 0, none⟩) hlt).trans hg
      have HL := Lib.hid hp.len
      clear q1 q2 q3 hc hp hg
      have HP : Hid (ps.getD m zeroP = ps.getD m zeroP) := Lib.hid rfl
      obtain ⟨p, hpp⟩ : ∃ p, p = ps.getD m zeroP := ⟨_, rfl⟩
      rw [← hpp] at c1 c2 c3
      have HPP := Lib.hid hpp
      clear HP hpp
      have HF := Lib.hid (find1_any p g k wr hgr)
      clear hgr
      go_wp2_with fail
      refine HF.out.mono ?_
      rintro e w1 ⟨rfl, hl⟩
      replace hB := hB.trans (hl.mono hB.size)
      clear hl HF c1 c2 c3
      by_cases hk : p.k = k
      · have hkb : (p.k == k) = true := by simpa using hk
        have HX := Lib.hid (IsFirst.from0 (IsFirst.here (k := k) (by rw [HL.out]; exact hmn) (by rw [← HPP.out]; exact hk)) HE.out)
        clear hk
        go_wp2_with fail
        go_ret
        exact ⟨⟨_, rfl, HX.out⟩, hB⟩
      · have hkb : (p.k == k) = false := by simpa using hk
        have HX := Lib.hid (show ∀ j, j < m + 1 → (ps.getD j zeroP).k ≠ k from fun j hj => by
          rcases Nat.lt_or_ge j m with h3 | h3
          · exact HE.out j h3
          · obtain rfl : j = m := by omega
            rw [← HPP.out]; exact hk)
        clear hk
        go_wp2_with fail
        go_roundw
        case rel => exact ⟨m + 1, by omega, by go_num, hB, HX⟩
        case measure => simp [intOf]; omega
    · obtain rfl : m = n := by omega
      have HL := Lib.hid hp.len
      go_wp2_with fail
      go_ret
      exact ⟨⟨_, rfl, IsFirst.from0 (IsFirst.end_ ps k m (by rw [HL.out]; exact Nat.le_refl _)) HE.out⟩, hB⟩

set_option maxHeartbeats 400000 in
theorem find_any (A : Option Addr) (n c : Nat) (ps : List Pt) (k : Int) (w : World) (hn : n ≤ 140737488355328) (hp : Ps w w.heap.size A n ps) :
    Calls Try.prog 10 #[.slice A n c, .int .i64 k] w fun e w' => (∃ v, e = .returned (.int .i64 v) ∧ IsFirst ps k 0 v) ∧ Below w.heap.size w w' := by
  have hl := Low.alloc w (.cells #[.int .i64 k] 3)
  have hp2 := hp.below' hl hl.size
  have hg : (w.alloc (.cells #[.int .i64 k] 3)).cell? ⟨w.heap.size, 0, none⟩ = some (.int .i64 k) := by simp
  go_enter Try.func10, Try.ntmps10
  go_wp2_with fail
  refine (idxf_any A n c ps w.heap.size k _ hn hp2 hg).mono ?_
  rintro e w1 ⟨⟨v, rfl, hv⟩, hl1⟩
  replace hl := Low.trans hl hl1
  clear hl1 hg hp2
  go_wp2_with fail
  go_ret
  exact ⟨⟨_, rfl, hv⟩, hl⟩

/-- such a part by value -/
def ptV (p : Pt) : Value := .agg #[.int .i64 p.k, .int .i64 p.a, .int .i64 p.l]
/-- a part and a bool handed back -/
def GivesU (w : World) (p : Pt) (t : Bool) (e : Ending) (w' : World) : Prop := e = .returned (.tuple #[ptV p, .bool t]) ∧ Below w.heap.size w w'
theorem part_size : (Try.prog.info? 31).map (·.size) = some 3 := by kernel_rfl
theorem ret_part {w' : World} {fn : Func} {p q : Tmp} {tmps : Array Value} {df : List Deferred} {g : Nat} {h : Pt} {t : Bool} {R : Ending → World → Prop} (hr : fn.results = #[.cell p 31, .tmp q]) (hp : tmps.getD p undef = .pointer (some ⟨g, 0, none⟩)) (hq : tmps.getD q undef = .bool t)
    (hb : BlkV w' 31 g (ptC h)) (hR : R (.returned (.tuple #[ptV h, .bool t])) w') (hdf : df = []) : bodyPost Try.prog fn R .ret ⟨tmps, df⟩ w' := by
  subst hdf
  exact bodyPost_ret (v := .tuple #[ptV h, .bool t]) (results_cell_tmp hr _ _ g _ _ _ _ _ hp hq hb Try.underlying31 rfl (by rw [part_size]; rfl)) rfl hR

set_option maxHeartbeats 800000 in
theorem upper_none (A : Option Addr) (c : Nat) (w : World) :
    Calls Try.prog 9 #[.slice A 0 c] w (GivesU w zeroP false) := by
  go_enter Try.func9, Try.ntmps9
  go_wp2_with fail
  exact ret_part Try.results9 rfl rfl (BlkV.new w _ (ptC zeroP)) ⟨rfl, Low.alloc _ _⟩ rfl
set_option maxHeartbeats 800000 in
theorem upper_some (A : Option Addr) (n c : Nat) (ps : List Pt) (w : World) (hn : n ≤ 140737488355328) (h0 : 0 < n) (hp : Ps w w.heap.size A n ps) :
    Calls Try.prog 9 #[.slice A n c] w (GivesU w (ps.getD (n - 1) zeroP) true) := by
  obtain ⟨m, rfl⟩ : ∃ m, n = m + 1 := ⟨n - 1, by omega⟩
  obtain ⟨b, o, rfl, hbl, hc⟩ := hp.mem h0
  obtain ⟨q1, q2, q3⟩ := hc m (by omega)
  rw [Nat.add_sub_cancel]
  generalize ps.getD m zeroP = p at *
  clear hc hp
  have hl := Low.alloc w (.cells #[.int .i64 0, .int .i64 0, .int .i64 0] 31)
  have c1 := (Below.cell hl (p := ⟨b, o + m * 3, none⟩) hbl).trans q1
  have c2 := (Below.cell hl (p := ⟨b, o + m * 3 + 1, none⟩) hbl).trans q2
  have c3 := (Below.cell hl (p := ⟨b, o + m * 3 + 2, none⟩) hbl).trans q3
  clear q1 q2 q3 hl
  go_enter Try.func9, Try.ntmps9
  go_wp2_with fail
  exact ret_part Try.results9 rfl rfl (BlkV.new w _ (ptC p)) ⟨rfl, Low.alloc _ _⟩ rfl
end Go.Proofs.Ytnfdfjjdgojeeaa
