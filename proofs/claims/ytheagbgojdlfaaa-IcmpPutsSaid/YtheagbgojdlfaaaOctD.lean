/- What octets.Put16, Put32, Set16 and Cut answer. Conditions: the lists are at most 2^47 bytes long; places and numbers are ints. -/
import Derived.Test.YtheagbgojdlfaaaOctC
namespace Go.Proofs.Ytheagbgojdlfaaa
open Go.RowKit
set_option linter.unusedVariables false

theorem getD2_0 {α : Type} (a b : α) (d : α) : [a, b].getD 0 d = a := rfl
theorem getD2_1 {α : Type} (a b : α) (d : α) : [a, b].getD 1 d = b := rfl

/-- two lists in a block of their own -/
theorem Row.two {w : World} {g : Nat} {t : TypeId} {a0 a1 : Option Addr} {n0 c0 n1 c1 : Nat} {xs ys : List Int}
    (hg : w.heap[g]? = some (.cells #[.slice a0 n0 c0, .slice a1 n1 c1] t (0, 0))) (h0 : Bs w w.heap.size a0 n0 xs) (h1 : Bs w w.heap.size a1 n1 ys) :
    Row w (some ⟨g, 0, none⟩) [(a0, n0, c0), (a1, n1, c1)] [xs, ys] := by
  refine ⟨rfl, fun i hi => ?_, fun _ => ⟨g, 0, rfl, (Array.getElem?_eq_some_iff.1 hg).1, fun i hi => ?_⟩⟩
  · match i, hi with
    | 0, _ => exact h0
    | 1, _ => exact h1
  · rw [cell_of_row w g _ _ _ _ hg]
    match i, hi with
    | 0, _ => rfl
    | 1, _ => rfl
theorem Row.one {w : World} {g : Nat} {t : TypeId} {a0 : Option Addr} {n0 c0 : Nat} {xs : List Int}
    (hg : w.heap[g]? = some (.cells #[.slice a0 n0 c0] t (0, 0))) (h0 : Bs w w.heap.size a0 n0 xs) :
    Row w (some ⟨g, 0, none⟩) [(a0, n0, c0)] [xs] := by
  refine ⟨rfl, fun i hi => ?_, fun _ => ⟨g, 0, rfl, (Array.getElem?_eq_some_iff.1 hg).1, fun i hi => ?_⟩⟩
  · match i, hi with
    | 0, _ => exact h0
  · rw [cell_of_row w g _ _ _ _ hg]
    match i, hi with
    | 0, _ => rfl
theorem Row.three {w : World} {g : Nat} {t : TypeId} {a0 a1 a2 : Option Addr} {n0 c0 n1 c1 n2 c2 : Nat} {xs ys zs : List Int}
    (hg : w.heap[g]? = some (.cells #[.slice a0 n0 c0, .slice a1 n1 c1, .slice a2 n2 c2] t (0, 0))) (h0 : Bs w w.heap.size a0 n0 xs) (h1 : Bs w w.heap.size a1 n1 ys) (h2 : Bs w w.heap.size a2 n2 zs) :
    Row w (some ⟨g, 0, none⟩) [(a0, n0, c0), (a1, n1, c1), (a2, n2, c2)] [xs, ys, zs] := by
  refine ⟨rfl, fun i hi => ?_, fun _ => ⟨g, 0, rfl, (Array.getElem?_eq_some_iff.1 hg).1, fun i hi => ?_⟩⟩
  · match i, hi with
    | 0, _ => exact h0
    | 1, _ => exact h1
    | 2, _ => exact h2
  · rw [cell_of_row w g _ _ _ _ hg]
    match i, hi with
    | 0, _ => rfl
    | 1, _ => rfl
    | 2, _ => rfl

theorem mod_byte (x : Int) : 0 ≤ x % 256 ∧ x % 256 < 256 := by omega

theorem join2 (A0 A1 : Option Addr) (n0 c0 n1 c1 g : Nat) (t : TypeId) (xs ys : List Int) (w : World) (hN : n0 + n1 ≤ 281474976710656)
    (hg : w.heap[g]? = some (.cells #[.slice A0 n0 c0, .slice A1 n1 c1] t (0, 0))) (h0 : Bs w w.heap.size A0 n0 xs) (h1 : Bs w w.heap.size A1 n1 ys) :
    Calls Try.prog 19 #[.slice (some ⟨g, 0, none⟩) 2 2] w fun e w' => ∃ v, e = .returned v ∧ NewB 5 w (n0 + n1) (xs ++ ys) v w' := by
  refine (join_any (some ⟨g, 0, none⟩) 2 2 _ _ (n0 + n1) w rfl (by omega) (Row.two hg h0 h1) (by simp [h0.len, h1.len]) hN).mono ?_
  rintro e w' ⟨rfl, hb, hB⟩
  rw [show [xs, ys].flatten = xs ++ ys by simp] at hb
  exact ⟨_, rfl, _, rfl, Nat.le_refl _, hb, by simp [h0.len, h1.len], h0.all.append h1.all, hB⟩
theorem join1 (A0 : Option Addr) (n0 c0 g : Nat) (t : TypeId) (xs : List Int) (w : World) (hN : n0 ≤ 281474976710656)
    (hg : w.heap[g]? = some (.cells #[.slice A0 n0 c0] t (0, 0))) (h0 : Bs w w.heap.size A0 n0 xs) :
    Calls Try.prog 19 #[.slice (some ⟨g, 0, none⟩) 1 1] w fun e w' => ∃ v, e = .returned v ∧ NewB 5 w n0 xs v w' := by
  refine (join_any (some ⟨g, 0, none⟩) 1 1 _ _ n0 w rfl (by omega) (Row.one hg h0) (by simp [h0.len]) hN).mono ?_
  rintro e w' ⟨rfl, hb, hB⟩
  rw [show [xs].flatten = xs by simp] at hb
  exact ⟨_, rfl, _, rfl, Nat.le_refl _, hb, h0.len, h0.all, hB⟩
theorem join3 (A0 A1 A2 : Option Addr) (n0 c0 n1 c1 n2 c2 g : Nat) (t : TypeId) (xs ys zs : List Int) (w : World) (hN : n0 + n1 + n2 ≤ 281474976710656)
    (hg : w.heap[g]? = some (.cells #[.slice A0 n0 c0, .slice A1 n1 c1, .slice A2 n2 c2] t (0, 0))) (h0 : Bs w w.heap.size A0 n0 xs) (h1 : Bs w w.heap.size A1 n1 ys) (h2 : Bs w w.heap.size A2 n2 zs) :
    Calls Try.prog 19 #[.slice (some ⟨g, 0, none⟩) 3 3] w fun e w' => ∃ v, e = .returned v ∧ NewB 5 w (n0 + n1 + n2) (xs ++ ys ++ zs) v w' := by
  refine (join_any (some ⟨g, 0, none⟩) 3 3 _ _ (n0 + n1 + n2) w rfl (by omega) (Row.three hg h0 h1 h2) (by simp [h0.len, h1.len, h2.len]; omega) hN).mono ?_
  rintro e w' ⟨rfl, hb, hB⟩
  rw [show [xs, ys, zs].flatten = xs ++ ys ++ zs by simp] at hb
  exact ⟨_, rfl, _, rfl, Nat.le_refl _, hb, by simp [h0.len, h1.len, h2.len]; omega, (h0.all.append h1.all).append h2.all, hB⟩

theorem NewB.wider {t : TypeId} {w0 w w' : World} {n : Nat} {ys : List Int} {v : Value} (h : NewB t w n ys v w') (hb : Below w0.heap.size w0 w) : NewB t w0 n ys v w' := by
  obtain ⟨g, hv, hg, hk, hl, ha, hB⟩ := h
  exact ⟨g, hv, Nat.le_trans hb.size hg, hk, hl, ha, hb.trans (hB.mono hb.size)⟩

/-- the bytes of a number -/
def two (x : Int) : List Int := [x / 256 % 256, x % 256]
def four (x : Int) : List Int := [x / 16777216, x / 65536 % 256, x / 256 % 256, x % 256]
theorem two_all (x : Int) : AllB (two x) := .cons (by omega) (by omega) (.cons (by omega) (by omega) .nil)
theorem four_all (x : Int) (_hx : 0 ≤ x ∧ x < 4294967296) : AllB (four x) := .cons (by omega) (by omega) (.cons (by omega) (by omega) (.cons (by omega) (by omega) (.cons (by omega) (by omega) .nil)))

set_option maxHeartbeats 400000 in
theorem put32_any (A : Option Addr) (n c : Nat) (x : Int) (xs : List Int) (w : World) (hn : n ≤ 140737488355330) (hx : 0 ≤ x ∧ x < 4294967296) (hb : Bs w w.heap.size A n xs) :
    Calls Try.prog 20 #[.slice A n c, .int .u32 x] w fun e w' => ∃ v, e = .returned v ∧ NewB 5 w (n + 4) (xs ++ four x) v w' := by
  go_enter Try.func20, Try.ntmps20
  go_wp2_with fail
  have hB : Below w.heap.size w ((w.alloc (.cells #[.int .u8 (x / 16777216), .int .u8 (x / 65536 % 256), .int .u8 (x / 256 % 256), .int .u8 (x % 256)] 5)).alloc (.cells #[.slice A n c, .slice (some ⟨w.heap.size, 0, none⟩) 4 4] 27)) :=
    ((Below.refl _ _).alloc (Nat.le_refl _) _).alloc (by simp) _
  have hk : Blk ((w.alloc (.cells #[.int .u8 (x / 16777216), .int .u8 (x / 65536 % 256), .int .u8 (x / 256 % 256), .int .u8 (x % 256)] 5)).alloc (.cells #[.slice A n c, .slice (some ⟨w.heap.size, 0, none⟩) 4 4] 27)) 5 w.heap.size (four x) := (Blk.new w 5 (four x)).alloc _
  refine (join2 A (some ⟨w.heap.size, 0, none⟩) n c 4 4 (w.heap.size + 1) 27 xs (four x) _ (by omega) ?_ ((hb.below hB).more (by simp; omega)) (hk.bs (four_all x hx) (by simp; omega) rfl)).mono ?_
  · have := heap_alloc_new (w.alloc (.cells #[.int .u8 (x / 16777216), .int .u8 (x / 65536 % 256), .int .u8 (x / 256 % 256), .int .u8 (x % 256)] 5)) (.cells #[.slice A n c, .slice (some ⟨w.heap.size, 0, none⟩) 4 4] 27 (0, 0))
    simpa using this
  · rintro e w' ⟨v, rfl, hnew⟩
    have hnew := Lib.hid (hnew.wider hB)
    clear hB hk
    go_wp2
    go_ret
    exact ⟨v, rfl, hnew.out⟩

set_option maxHeartbeats 400000 in
theorem set16_no (A : Option Addr) (n c : Nat) (p x : Int) (w : World) (hn : n ≤ 140737488355328) (hp : p ≤ 9223372036854775807) (h : p < 0 ∨ (n : Int) - p < 2) :
    Calls Try.prog 21 #[.slice A n c, .int .i64 p, .int .i64 x] w fun e w' => e = .returned (.tuple #[.slice none 0 0, .bool false]) ∧ w = w' := by
  go_enter Try.func21, Try.ntmps21
  go_wp2_with (go_at_call 35; refine (there_no _ _ _ _ _ _ hn hp (by omega)).mono ?_; rintro e w' ⟨rfl, rfl⟩)
  go_ret2
  exact ⟨rfl, rfl⟩

set_option maxHeartbeats 400000 in
theorem set16_yes (A : Option Addr) (n c : Nat) (q : Int) (p : Nat) (x : Int) (xs : List Int) (w : World) (hn : n ≤ 140737488355328) (hx : i64ok x) (hb : Bs w w.heap.size A n xs) (hq : q = p) (h : p + 2 ≤ n) :
    Calls Try.prog 21 #[.slice A n c, .int .i64 q, .int .i64 x] w fun e w' => ∃ v, e = .returned (.tuple #[v, .bool true]) ∧ NewB 5 w n ((xs.set p (x / 256 % 256)).set (p + 1) (x % 256)) v w' := by
  subst hq
  unfold i64ok at hx
  go_enter Try.func21, Try.ntmps21
  go_wp2_with (go_at_call 35; refine (there_yes _ _ _ _ _ _ hn (by omega) (by omega) (by omega)).mono ?_; rintro e w' ⟨rfl, rfl⟩)
  have hB : Below w.heap.size w (w.alloc (.cells #[.slice A n c] 27)) := (Below.refl _ _).alloc (Nat.le_refl _) _
  refine (join1 A n c w.heap.size 27 xs _ (by omega) (heap_alloc_new _ _) ((hb.below hB).more (by simp))).mono ?_
  rintro e w' ⟨v, rfl, g, rfl, hg, hk, hl, ha, hB1⟩
  have hB2 := hB.trans (hB1.mono hB.size)
  have hg2 : w.heap.size ≤ g := Nat.le_trans hB.size hg
  clear hB hB1 hg
  have h0 : w'.cell? ⟨g, p, none⟩ = some (.int .u8 (xs.getD p 0)) := by rw [hk.cell, cellsB_get (by omega)]
  have h1 : w'.cell? ⟨g, p + 1, none⟩ = some (.int .u8 (xs.getD (p + 1) 0)) := by rw [hk.cell, cellsB_get (by omega)]
  have f0 := hk.frozen p
  have f1 := hk.frozen (p + 1)
  have HK := Lib.hid ((hk.set_ p (x / 256 % 256)).set_ (p + 1) (x % 256))
  have HL := Lib.hid hl
  clear hl hk
  go_wp2
  go_ret2
  exact ⟨_, rfl, g, rfl, hg2, HK.out, by simp [HL.out], (ha.set _ (by omega) (by omega)).set _ (by omega) (by omega), (hB2.setCell hg2 _).setCell hg2 _⟩

set_option maxHeartbeats 400000 in
theorem cut_no (A : Option Addr) (n c : Nat) (p k : Int) (w : World) (hn : n ≤ 140737488355328) (hp : p ≤ 9223372036854775807) (h : p < 0 ∨ k < 0 ∨ (n : Int) - p < k) :
    Calls Try.prog 28 #[.slice A n c, .int .i64 p, .int .i64 k] w fun e w' => e = .returned (.tuple #[.slice none 0 0, .bool false]) ∧ w = w' := by
  go_enter Try.func28, Try.ntmps28
  go_wp2_with (go_at_call 35; refine (there_no _ _ _ _ _ _ hn hp h).mono ?_; rintro e w' ⟨rfl, rfl⟩)
  go_ret2
  exact ⟨rfl, rfl⟩

set_option maxHeartbeats 400000 in
theorem cut_yes (A : Option Addr) (n c : Nat) (q r : Int) (p k : Nat) (xs : List Int) (w : World) (hn : n ≤ 140737488355328) (hc : n ≤ c) (hc2 : c ≤ 9223372036854775807) (hb : Bs w w.heap.size A n xs) (hq : q = p) (hr : r = k) (h : p + k ≤ n) :
    Calls Try.prog 28 #[.slice A n c, .int .i64 q, .int .i64 r] w fun e w' => ∃ v, e = .returned (.tuple #[v, .bool true]) ∧ NewB 5 w k ((xs.drop p).take k) v w' := by
  subst hq hr
  obtain ⟨i0, hi, hz0, hz1, hz2⟩ := info_parts info5
  have hmk : ∀ u : World, (Instr.makeSlice 27 (.int .i64 (k : Int)) (.int .i64 (k : Int))).run Try.prog u =
      .ok (.slice (some ⟨u.heap.size, 0, none⟩) k k) (u.alloc (.cells (madeCells #[.int .u8 0] k) 5)) := fun u => by
    have h := run_make (P := Try.prog) u 27 5 i0 (.int .u8 0) Try.underlying27 hi hz0 .i64 .i64 (k : Int) (k : Int) (by omega) (Int.le_refl _) (by rw [hz2]; omega) (by omega)
    simpa [hz1, Value.cells] using h
  rw [made_laid] at hmk
  obtain ⟨Z, hZ⟩ : ∃ Z, Z = laidRow [] k := ⟨_, rfl⟩
  rw [← hZ] at hmk
  have HZ := Lib.hid hZ
  clear hZ
  have hall : AllB ((xs.drop p).take k) := (hb.all.drop p).take k
  have hlen : ((xs.drop p).take k).length = k := by simp [hb.len]; omega
  have hB1 : ∀ o : Obj, Below w.heap.size w (w.alloc o) := fun o => (Below.refl _ _).alloc (Nat.le_refl _) o
  have HG : Hid ((w.alloc (.cells Z.toArray 5)).heap[w.heap.size]? = some (.cells Z.toArray 5 (0, 0))) := heap_alloc_new w _
  have HSP := Lib.hid (laidRow_splice [] ((xs.drop p).take k) k)
  have HRL := Lib.hid (laidRow_length [] k (by simp))
  rw [← HZ.out] at HSP HRL
  have HF := Lib.hid (laidRow_full ((xs.drop p).take k))
  rw [hlen] at HF
  have HL := Lib.hid hlen
  obtain ⟨cs, hcs⟩ : ∃ cs, cs = cellsB ((xs.drop p).take k) := ⟨_, rfl⟩
  have HCO := Lib.hid (cellsB_one ((xs.drop p).take k))
  have HCL : Hid (cs.length = k) := by rw [hcs, cellsB_length]; exact hlen
  rw [← hcs] at HSP HCO
  have HCS := Lib.hid hcs
  by_cases hk0 : k = 0
  · have hk0' : k ≤ 0 := by omega
    subst hk0
    have hmk0 : ∀ u : World, (Instr.makeSlice 27 (.int .i64 0) (.int .i64 0)).run Try.prog u = .ok (.slice (some ⟨u.heap.size, 0, none⟩) 0 0) (u.alloc (.cells Z.toArray 5)) := hmk
    clear hlen hcs hmk
    go_enter Try.func28, Try.ntmps28
    go_wp2_with (first
      | (go_at_call 35; refine (there_yes _ _ _ _ _ _ hn (by omega) (by omega) (by omega)).mono ?_; rintro e w' ⟨rfl, rfl⟩)
      | (with_reducible refine wpList_copy_splice rfl (.tmp 26) (.tmp 27) 27 27 rfl 5 Try.underlying27 size5 _ _ _ _ _ _ rfl rfl w.heap.size 0 Z 5 HG.out cs (HCL.out.trans (Nat.min_self 0).symm) (fun hp => absurd hp (by rw [HCL.out]; omega)) (by rw [HCL.out, HRL.out]; omega) HCO.out w.heap.size w (hB1 _) (Nat.le_refl _) ?_; intro w2 HG2 hB2))
    go_ret2
    exact ⟨_, rfl, w.heap.size, rfl, Nat.le_refl _, by have h2 := HG2.out; rw [show splice Z 0 cs = _ from HSP.out, List.nil_append, HF.out] at h2; exact h2, HL.out, hall, hB2⟩
  · have hk1 : 0 < k := by omega
    obtain ⟨b, o, rfl, hbw, hcell⟩ := hb.mem (by omega)
    have HSRC : Hid (∃ ad, some (⟨b, o + p, none⟩ : Addr) = some ad ∧ ∀ j v, cs[j]? = some v → (w.alloc (.cells Z.toArray 5)).cell? (ad.add j) = some v) := by
      refine ⟨_, rfl, fun j v hv => ?_⟩
      have hj : j < k := by have := (List.getElem?_eq_some_iff.1 hv).1; rw [HCL.out] at this; exact this
      rw [hcs, cellsB_get (by omega)] at hv
      rw [Addr.add_lit, World.cell?_alloc_lt _ _ _ hbw, Nat.add_assoc, hcell (p + j) (by omega), ← hv]
      congr 2
      simp [List.getD, hj]
    clear hlen hcs hcell
    go_enter Try.func28, Try.ntmps28
    go_wp2_with (first
      | (go_at_call 35; refine (there_yes _ _ _ _ _ _ hn (by omega) (by omega) (by omega)).mono ?_; rintro e w' ⟨rfl, rfl⟩)
      | (with_reducible refine wpList_copy_splice rfl (.tmp 26) (.tmp 27) 27 27 rfl 5 Try.underlying27 size5 _ _ _ _ _ _ rfl rfl w.heap.size 0 Z 5 HG.out cs (by rw [HCL.out]; exact (Nat.min_eq_right (by omega)).symm) (fun hp => ⟨rfl, HSRC.out⟩) (by rw [HCL.out, HRL.out]; omega) HCO.out w.heap.size w (hB1 _) (Nat.le_refl _) ?_; intro w2 HG2 hB2))
    go_ret2
    exact ⟨_, rfl, w.heap.size, rfl, Nat.le_refl _, by have h2 := HG2.out; rw [show splice Z 0 cs = _ from HSP.out, List.nil_append, HF.out] at h2; exact h2, HL.out, hall, hB2⟩
end Go.Proofs.Ytheagbgojdlfaaa
