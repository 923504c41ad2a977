/- Stage 20: the program's own history: whether a table may be pushed; the newest one, copied. Conditions: at most 1000 versions; they are as kept ones always are. -/
import Derived.Test.YtedldebomoplmaaHiK
set_option maxRecDepth 100000
namespace Go.Proofs.Ytedldebomoplmaa
open Go.RowKit
set_option linter.unusedVariables false

/-- did a call make it? -/
def MadeH (w : World) (B : Nat) (p : Option Addr) (m : Bool) : Prop := (p = none ∧ m = false) ∨ ∃ g, p = some ⟨g, 0, none⟩ ∧ g < B ∧ w.cell? ⟨g, 0, none⟩ = some (.bool m)
theorem MadeH.below {w w' : World} {B B' : Nat} {p : Option Addr} {m : Bool} (h : MadeH w B p m) (hb : Below B w w') (hB : B ≤ B') : MadeH w' B' p m := by
  rcases h with h | ⟨g, e, hg, hc⟩
  · exact .inl h
  · exact .inr ⟨g, e, Nat.lt_of_lt_of_le hg hB, (hb.cell (p := ⟨g, 0, none⟩) hg).trans hc⟩
theorem hunmade_any (p : Option Addr) (m : Bool) (now : Int) (w : World) (hm : MadeH w w.heap.size p m) :
    Calls Try.prog 26 #[.pointer p, .int .i64 now] w fun e w' => e = .returned (.int .i64 (if m = true then 0 else 1)) ∧ Low w w' := by
  rcases hm with ⟨rfl, rfl⟩ | ⟨g, rfl, hg, hc⟩
  · go_enter Try.func26, Try.ntmps26
    go_wp2_with fail
    go_ret
    exact ⟨rfl, Low.refl _⟩
  · cases m with
    | true =>
      go_enter Try.func26, Try.ntmps26
      go_wp2_with fail
      go_ret
      exact ⟨rfl, Low.refl _⟩
    | false =>
      go_enter Try.func26, Try.ntmps26
      go_wp2_with fail
      go_ret
      exact ⟨rfl, Low.refl _⟩
/-- is it too early? -/
def earlyH (f now : Int) : Int := if now < 0 ∨ now < f then 2 else 0
set_option maxHeartbeats 1600000 in
set_option maxRecDepth 100000 in
theorem hearly_any (p : Option Addr) (A : Option Addr) (n c : Nat) (ld : List Vd) (now : Int) (w : World) (hn : n ≤ 1000) (hs : SeeH w w.heap.size (.pointer p) A n c) (hb : Es verE w w.heap.size A n ld) :
    Calls Try.prog 27 #[.pointer p, .int .i64 now] w fun e w' => e = .returned (.int .i64 (earlyH (lastV ld).f now)) ∧ Low w w' := by
  have HC := Lib.hid (hnewest_any p A n c ld w hn hs hb)
  clear hs hb
  generalize lastV ld = x at *
  obtain ⟨x1, x2, x3, x4, x5, x6, x7⟩ := x
  have HE := Lib.hid (show earlyH x2 now = if now < 0 ∨ now < x2 then 2 else 0 from rfl)
  dsimp only
  generalize earlyH x2 now = r at *
  go_enter Try.func27, Try.ntmps27
  go_wp2_with fail
  refine HC.out.mono ?_
  rintro e w2 ⟨rfl, hl⟩
  have HL := Lib.hid hl
  clear hl
  go_wp2_with (with_reducible refine wpList_alloc_v rfl _ rfl _ hver_zero ?_; intro w3 h3 hl3 hz3; refine Hid.out ?_)
  refine Lib.hid ?_
  go_wp2_with (refine wpList_store_vq rfl _ _ _ rfl w2.heap.size rfl (vdC ⟨x1, x2, x3, x4, x5, x6, x7⟩) rfl _ _ h3 rfl (by kernel_rfl) (vdC_one _) ?_; intro w4 h4 hb4 hz4 ho4; refine Hid.out ?_)
  refine Lib.hid ?_
  have hl4 : Low w2 w4 := Below.trans hl3 hb4
  replace HL := Lib.hid (HL.out.trans hl4)
  have c1 : w4.cell? ⟨w2.heap.size, 1, none⟩ = some (.int .i64 x2) := h4.cell 1
  clear h3 hl3 hz3 h4 hb4 hz4 ho4 hl4
  by_cases h0 : now < 0
  · have HE2 := Lib.hid (show r = 2 by rw [HE.out, if_pos (.inl h0)])
    clear HE
    go_wp2_with fail
    go_ret
    exact ⟨by rw [HE2.out]; rfl, HL.out⟩
  · by_cases h1 : now < x2
    · have HE2 := Lib.hid (show r = 2 by rw [HE.out, if_pos (.inr h1)])
      clear HE
      go_wp2_with fail
      go_ret
      exact ⟨by rw [HE2.out]; rfl, HL.out⟩
    · have HE2 := Lib.hid (show r = 0 by rw [HE.out, if_neg (by omega)])
      clear HE
      go_wp2_with fail
      go_ret
      exact ⟨by rw [HE2.out]; rfl, HL.out⟩
/-- may the one that would go still be needed? -/
def busyH (n : Nat) (u now : Int) : Int := if n = 4 ∧ now - u < 16 then 11 else 0
set_option maxHeartbeats 1600000 in
set_option maxRecDepth 100000 in
theorem hbusy_any (g : Nat) (A : Option Addr) (n c : Nat) (ld : List Vd) (now : Int) (w : World) (hn : n ≤ 1000) (hc : w.cell? ⟨g, 1, none⟩ = some (.slice A n c)) (hb : Es verE w w.heap.size A n ld)
    (h0 : 0 ≤ now) (h1 : now ≤ 9223372036854775807) (hu : n = 4 → 0 ≤ (ld.getD 0 zeroVd).u ∧ (ld.getD 0 zeroVd).u ≤ 9223372036854775807) :
    Calls Try.prog 28 #[.pointer (some ⟨g, 0, none⟩), .int .i64 now] w fun e w' => e = .returned (.int .i64 (busyH n (ld.getD 0 zeroVd).u now)) ∧ Low w w' := by
  by_cases h4 : n = 4
  · subst h4
    obtain ⟨hu0, hu1⟩ := hu rfl
    obtain ⟨b, o, rfl, _, _⟩ := hb.mem (by omega)
    obtain ⟨_, hr⟩ := hb.at_ (i := 0) (by omega)
    have q3 : w.cell? ⟨b, o + 2, none⟩ = some (.int .i64 (ld.getD 0 zeroVd).u) := by
      have h := hr 2 _ rfl
      rw [Nat.zero_mul, Nat.add_zero] at h
      exact h
    clear hu hb hr
    generalize (ld.getD 0 zeroVd).u = u at *
    have HE := Lib.hid (show busyH 4 u now = if now - u < 16 then 11 else 0 by unfold busyH; simp)
    generalize busyH 4 u now = r at *
    by_cases h2 : now - u < 16
    · have HE2 := Lib.hid (show r = 11 by rw [HE.out, if_pos h2])
      clear HE
      go_enter Try.func28, Try.ntmps28
      go_wp2_with fail
      go_ret
      exact ⟨by rw [HE2.out]; rfl, Low.refl _⟩
    · have HE2 := Lib.hid (show r = 0 by rw [HE.out, if_neg h2])
      clear HE
      go_enter Try.func28, Try.ntmps28
      go_wp2_with fail
      go_ret
      exact ⟨by rw [HE2.out]; rfl, Low.refl _⟩
  · have HE := Lib.hid (show busyH n (ld.getD 0 zeroVd).u now = 0 by unfold busyH; rw [if_neg (by omega)])
    generalize busyH n (ld.getD 0 zeroVd).u now = r at *
    have h5 : ¬ (n : Int) = 4 := by omega
    clear hu hb
    go_enter Try.func28, Try.ntmps28
    go_wp2_with fail
    go_ret
    exact ⟨by rw [HE.out]; rfl, Low.refl _⟩
def wrongE (e1 e2 e3 : Int) : Int := if e1 = 0 then if e2 = 0 then e3 else e2 else e1
set_option maxHeartbeats 1600000 in
set_option maxRecDepth 100000 in
theorem hwrong_any (p : Option Addr) (now e1 e2 e3 : Int) (w : World)
    (U0 : ∀ u, Low w u → Calls Try.prog 26 #[.pointer p, .int .i64 now] u fun e u' => e = .returned (.int .i64 e1) ∧ Low u u')
    (U1 : e1 = 0 → ∀ u, Low w u → Calls Try.prog 27 #[.pointer p, .int .i64 now] u fun e u' => e = .returned (.int .i64 e2) ∧ Low u u')
    (U2 : e1 = 0 → e2 = 0 → ∀ u, Low w u → Calls Try.prog 28 #[.pointer p, .int .i64 now] u fun e u' => e = .returned (.int .i64 e3) ∧ Low u u') :
    Calls Try.prog 17 #[.pointer p, .int .i64 now] w fun e w' => e = .returned (.int .i64 (wrongE e1 e2 e3)) ∧ Low w w' := by
  have H0 := Lib.hid U0
  have H1 := Lib.hid U1
  have H2 := Lib.hid U2
  clear U0 U1 U2
  have HK := Lib.hid (BlkV.new w 53 [.func (.func 26) #[.pointer p] #[], .func (.func 27) #[.pointer p] #[], .func (.func 28) #[.pointer p] #[]])
  have HL0 := Lib.hid (Low.alloc w (.cells #[.func (.func 26) #[.pointer p] #[], .func (.func 27) #[.pointer p] #[], .func (.func 28) #[.pointer p] #[]] 53))
  go_enter Try.func17, Try.ntmps17
  go_wp2_with fail
  obtain ⟨w2, hw2⟩ : ∃ w2, w2 = w.alloc (.cells #[.func (.func 26) #[.pointer p] #[], .func (.func 27) #[.pointer p] #[], .func (.func 28) #[.pointer p] #[]] 53) := ⟨_, rfl⟩
  rw [← hw2]
  replace HK := Lib.hid (show BlkV w2 53 w.heap.size [.func (.func 26) #[.pointer p] #[], .func (.func 27) #[.pointer p] #[], .func (.func 28) #[.pointer p] #[]] by rw [hw2]; exact HK.out)
  replace HL0 := Lib.hid (show Low w w2 by rw [hw2]; exact HL0.out)
  clear hw2
  go_loopw [16] (fun v wr => ∃ k : Nat, k ≤ 3 ∧ v = .int .i64 k ∧ Hid ((1 ≤ k → e1 = 0) ∧ (2 ≤ k → e2 = 0) ∧ (3 ≤ k → e3 = 0)) ∧ Hid (Low w wr) ∧ Hid (BlkV wr 53 w.heap.size [.func (.func 26) #[.pointer p] #[], .func (.func 27) #[.pointer p] #[], .func (.func 28) #[.pointer p] #[]])) (fun v _ => 3 - (intOf v).toNat)
  case atStart => exact ⟨0, by omega, rfl, Lib.hid ⟨fun h => absurd h (by omega), fun h => absurd h (by omega), fun h => absurd h (by omega)⟩, HL0, HK⟩
  case round =>
    clear HK HL0
    obtain ⟨k, hk, rfl, HE, HL, HK⟩ := hrel
    have d0 : wr.cell? ⟨w.heap.size, 0, none⟩ = some (.func (.func 26) #[.pointer p] #[]) := HK.out.cell 0
    have d1 : wr.cell? ⟨w.heap.size, 1, none⟩ = some (.func (.func 27) #[.pointer p] #[]) := HK.out.cell 1
    have d2 : wr.cell? ⟨w.heap.size, 2, none⟩ = some (.func (.func 28) #[.pointer p] #[]) := HK.out.cell 2
    obtain rfl | rfl | rfl | rfl : k = 0 ∨ k = 1 ∨ k = 2 ∨ k = 3 := by omega
    · go_wp2_with fail
      refine (H0.out wr HL.out).mono ?_
      rintro e w3 ⟨rfl, hl⟩
      have HL3 := Lib.hid (HL.out.trans hl)
      have HK3 := Lib.hid (HK.out.below hl HK.out.lt)
      clear hl d0 d1 d2
      by_cases h : e1 = 0
      · have HZ := Lib.hid h
        clear h hk
        rw [HZ.out]
        go_wp2_with fail
        go_roundw
        case rel => exact ⟨1, by omega, rfl, Lib.hid ⟨fun _ => HZ.out, fun h => absurd h (by omega), fun h => absurd h (by omega)⟩, HL3, HK3⟩
        case measure => simp [intOf]
      · go_wp2_with fail
        go_ret
        exact ⟨by rw [show wrongE e1 e2 e3 = e1 by unfold wrongE; rw [if_neg h]]; rfl, HL3.out⟩
    · go_wp2_with fail
      refine (H1.out (HE.out.1 (by omega)) wr HL.out).mono ?_
      rintro e w3 ⟨rfl, hl⟩
      have HL3 := Lib.hid (HL.out.trans hl)
      have HK3 := Lib.hid (HK.out.below hl HK.out.lt)
      clear hl d0 d1 d2
      by_cases h : e2 = 0
      · have HZ := Lib.hid h
        clear h hk
        rw [HZ.out]
        go_wp2_with fail
        go_roundw
        case rel => exact ⟨2, by omega, rfl, Lib.hid ⟨fun _ => HE.out.1 (by omega), fun _ => HZ.out, fun h => absurd h (by omega)⟩, HL3, HK3⟩
        case measure => simp [intOf]
      · go_wp2_with fail
        go_ret
        exact ⟨by rw [show wrongE e1 e2 e3 = e2 by unfold wrongE; rw [if_pos (HE.out.1 (by omega)), if_neg h]]; rfl, HL3.out⟩
    · go_wp2_with fail
      refine (H2.out (HE.out.1 (by omega)) (HE.out.2.1 (by omega)) wr HL.out).mono ?_
      rintro e w3 ⟨rfl, hl⟩
      have HL3 := Lib.hid (HL.out.trans hl)
      have HK3 := Lib.hid (HK.out.below hl HK.out.lt)
      clear hl d0 d1 d2
      by_cases h : e3 = 0
      · have HZ := Lib.hid h
        clear h hk
        rw [HZ.out]
        go_wp2_with fail
        go_roundw
        case rel => exact ⟨3, by omega, rfl, Lib.hid ⟨fun _ => HE.out.1 (by omega), fun _ => HE.out.2.1 (by omega), fun _ => HZ.out⟩, HL3, HK3⟩
        case measure => simp [intOf]
      · go_wp2_with fail
        go_ret
        exact ⟨by rw [show wrongE e1 e2 e3 = e3 by unfold wrongE; rw [if_pos (HE.out.1 (by omega)), if_pos (HE.out.2.1 (by omega))]]; rfl, HL3.out⟩
    · clear d0 d1 d2
      go_wp2_with fail
      go_ret
      exact ⟨by rw [show wrongE e1 e2 e3 = 0 by unfold wrongE; rw [if_pos (HE.out.1 (by omega)), if_pos (HE.out.2.1 (by omega)), HE.out.2.2 (by omega)]]; rfl, HL.out⟩

/-- the program's history as it lies: at g, with its list; F: where it keeps what it has -/
structure HiAt (w : World) (F : Nat → Prop) (g : Nat) (A : Option Addr) (n c : Nat) (ld : List Vd) : Prop where
  head : BlkV w 51 g [.bool true, .slice A n c]
  cap : n ≤ c
  row : Es verE w w.heap.size A n ld
  tab : ∀ x ∈ ld, Ns w w.heap.size x.A x.k x.t ∧ x.k ≤ x.c ∧ x.k ≤ 17592186044416
  under : Under F w
  inG : F g
  inR : 0 < n → ∀ b o, A = some ⟨b, o, none⟩ → F b
  inT : ∀ x ∈ ld, 0 < x.k → ∀ b o, x.A = some ⟨b, o, none⟩ → F b
section
variable {w w' : World} {F : Nat → Prop} {g n c : Nat} {A : Option Addr} {ld : List Vd}
theorem HiAt.keep (h : HiAt w F g A n c ld) (hz : w.heap.size ≤ w'.heap.size) (hk : ∀ k, F k → w'.heap[k]? = w.heap[k]?) : HiAt w' F g A n c ld where
  head := (hk g h.inG).trans h.head
  cap := h.cap
  row := ⟨h.row.len, h.row.all, fun hn => by
    obtain ⟨b, o, e, hb, hc⟩ := h.row.mem hn
    exact ⟨b, o, e, by omega, fun j v hv => (World.cell?_of_block (w := w) (hk b (h.inR hn b o e))).trans (hc j v hv)⟩⟩
  tab := fun x hx => ⟨⟨(h.tab x hx).1.len, (h.tab x hx).1.all, fun hn => by
    obtain ⟨b, o, e, hb, hc⟩ := (h.tab x hx).1.mem hn
    exact ⟨b, o, e, by omega, fun i hi => (World.cell?_of_block (w := w) (hk b (h.inT x hx hn b o e))).trans (hc i hi)⟩⟩, (h.tab x hx).2⟩
  under := h.under.more hz
  inG := h.inG
  inR := h.inR
  inT := h.inT
theorem HiAt.low (h : HiAt w F g A n c ld) (hl : Low w w') : HiAt w' F g A n c ld := h.keep hl.size fun k hk => hl.block k (h.under k hk)
theorem HiAt.see (h : HiAt w F g A n c ld) : SeeH w w.heap.size (.pointer (some ⟨g, 0, none⟩)) A n c := .inr ⟨g, rfl, h.head.lt, h.head.cell 1⟩
theorem HiAt.made (h : HiAt w F g A n c ld) : MadeH w w.heap.size (some ⟨g, 0, none⟩) true := .inr ⟨g, rfl, h.head.lt, h.head.cell 0⟩
theorem may_wrong (ld : List Vd) (n : Nat) (hn : ld.length = n) (now : Int) : mayH (ld.map Vd.v) now = wrongE 0 (earlyH (lastV ld).f now) (busyH n (ld.getD 0 zeroVd).u now) := by
  unfold mayH wrongE earlyH busyH lastV
  rw [List.length_map, getD_vb, getD_vb, hn]
  rw [if_pos rfl]
  have hf : (ld.getD (n - 1) zeroVd).v.f = (ld.getD (n - 1) zeroVd).f := rfl
  have hu : (ld.getD 0 zeroVd).v.u = (ld.getD 0 zeroVd).u := rfl
  rw [hf, hu]
  have hz : n = 0 → (ld.getD (n - 1) zeroVd).f = 0 := fun h => by
    subst h
    obtain rfl : ld = [] := List.eq_nil_of_length_eq_zero hn
    rfl
  generalize (ld.getD (n - 1) zeroVd).f = f at *
  generalize (ld.getD 0 zeroVd).u = u at *
  clear hf hu
  by_cases h1 : now < 0 ∨ now < f
  · have h2 : now < 0 ∨ (0 < n ∧ now < f) := by
      rcases Nat.eq_zero_or_pos n with h0 | h0
      · have := hz h0
        omega
      · omega
    rw [if_pos h2, if_pos h1, if_neg (by decide)]
  · rw [if_neg (by omega), if_neg h1, if_pos rfl]
theorem rightH_until {l : List Vb} {last : Int} (h : RightH l last) (h4 : l.length = 4) : 0 ≤ (l.getD 0 zeroVb).u ∧ (l.getD 0 zeroVb).u ≤ 9223372036854775807 := by
  have a1 := h.until_ 0 (by omega)
  have a2 := h.from_ 1 (by omega)
  simp only [Nat.zero_add] at a1
  omega
theorem hwrongM_any (last now : Int) (h : HiAt w F g A n c ld) (hr : RightH (ld.map Vd.v) last) (hnow : i64ok now) :
    Calls Try.prog 17 #[.pointer (some ⟨g, 0, none⟩), .int .i64 now] w fun e w' => e = .returned (.int .i64 (mayH (ld.map Vd.v) now)) ∧ Low w w' := by
  have hl := h.row.len
  have h4 : n ≤ 4 := by have := hr.few; rw [List.length_map] at this; omega
  rw [may_wrong ld n hl now]
  unfold i64ok at hnow
  refine hwrong_any _ now _ _ _ w (fun u hu => hunmade_any _ true now u (h.low hu).made) (fun _ u hu => hearly_any _ A n c ld now u (by omega) (h.low hu).see (h.low hu).row) fun _ h2 u hu => ?_
  have hu4 := h.low hu
  refine hbusy_any g A n c ld now u (by omega) (hu4.head.cell 1) hu4.row ?_ hnow.2 fun h5 => ?_
  · unfold earlyH at h2
    by_cases h1 : now < 0
    · rw [if_pos (.inl h1)] at h2
      exact absurd h2 (by decide)
    · omega
  · have := rightH_until hr (by rw [List.length_map]; omega)
    rw [getD_vb] at this
    exact this
theorem hwrongZ_any (p : Option Addr) (now : Int) (w : World) (hm : MadeH w w.heap.size p false) :
    Calls Try.prog 17 #[.pointer p, .int .i64 now] w fun e w' => e = .returned (.int .i64 1) ∧ Low w w' :=
  hwrong_any p now 1 0 0 w (fun u hu => hunmade_any p false now u (hm.below hu hu.size)) (fun h => absurd h (by decide)) (fun h => absurd h (by decide))
theorem hfree_gen (p : Option Addr) (now r : Int) (w : World) (h : Calls Try.prog 17 #[.pointer p, .int .i64 now] w fun e w' => e = .returned (.int .i64 r) ∧ Low w w') :
    Calls Try.prog 8 #[.pointer p, .int .i64 now] w fun e w' => e = .returned (.bool (decide (r = 0))) ∧ Low w w' := by
  have HC := Lib.hid h
  clear h
  by_cases h0 : r = 0
  · have HE := Lib.hid (show decide (r = 0) = true from decide_eq_true h0)
    subst h0
    go_enter Try.func8, Try.ntmps8
    go_wp2_with fail
    refine HC.out.mono ?_
    rintro e w2 ⟨rfl, hl⟩
    have HL := Lib.hid hl
    clear hl
    go_wp2_with fail
    go_ret
    exact ⟨by rfl, HL.out⟩
  · have HE := Lib.hid (show decide (r = 0) = false from decide_eq_false h0)
    generalize decide (r = 0) = q at *
    go_enter Try.func8, Try.ntmps8
    go_wp2_with fail
    refine HC.out.mono ?_
    rintro e w2 ⟨rfl, hl⟩
    have HL := Lib.hid hl
    clear hl
    have h1 : (r == 0) = false := by simpa using h0
    go_wp2_with fail
    go_ret
    exact ⟨by rw [HE.out]; rfl, HL.out⟩
end
set_option maxHeartbeats 1600000 in
set_option maxRecDepth 100000 in
theorem hnew2_any (p : Option Addr) (A : Option Addr) (n c : Nat) (ld : List Vd) (w : World) (hn : n ≤ 1000) (hs : SeeH w w.heap.size (.pointer p) A n c) (hb : Es verE w w.heap.size A n ld) (ht : Ns w w.heap.size (lastV ld).A (lastV ld).k (lastV ld).t) (hk : (lastV ld).k ≤ 17592186044416) :
    Calls Try.prog 11 #[.pointer p] w fun e w' => ∃ A' c', e = .returned (.tuple #[.agg (vdC ⟨(lastV ld).n, (lastV ld).f, (lastV ld).u, A', (lastV ld).k, c', (lastV ld).t⟩).toArray, .bool (decide (0 < n))]) ∧ Low w w' := by
  have HC := Lib.hid (hnewest_any p A n c ld · hn)
  have HS := Lib.hid hs
  have HB := Lib.hid hb
  have HT := Lib.hid ht
  have HCP := Lib.hid (fun u => copied_any (lastV ld) u hk)
  clear hs hb ht hk
  generalize lastV ld = x at *
  go_enter Try.func11, Try.ntmps11
  go_wp2_with (with_reducible refine wpList_alloc_v rfl _ rfl _ hver_zero ?_; intro w1 h1 hl1 hz1; refine Hid.out ?_)
  refine Lib.hid ?_
  have H1 := Lib.hid h1
  have HL1 := Lib.hid hl1
  clear h1 hl1
  go_wp2_with fail
  refine (HC.out w1 (HS.out.below HL1.out HL1.out.size) (HB.out.low HL1.out)).mono ?_
  rintro e w2 ⟨rfl, hl⟩
  have H2 := Lib.hid (H1.out.below hl H1.out.lt)
  have HL2 := Lib.hid (HL1.out.trans hl)
  have hz2 := hl.size
  clear hl H1 HL1
  go_wp2_with (with_reducible refine wpList_alloc_v rfl _ rfl _ hver_zero ?_; intro w3 h3 hl3 hz3; refine Hid.out ?_)
  refine Lib.hid ?_
  go_wp2_with (refine wpList_store_vq rfl _ _ _ rfl w2.heap.size rfl (vdC x) rfl _ _ h3 rfl (by kernel_rfl) (vdC_one _) ?_; intro w4 h4 hb4 hz4 ho4; refine Hid.out ?_)
  refine Lib.hid ?_
  have hl4 : Low w2 w4 := Below.trans hl3 hb4
  have H4 := Lib.hid h4
  have H24 := Lib.hid (H2.out.below hl4 H2.out.lt)
  have HL4 := Lib.hid (HL2.out.trans hl4)
  clear h3 hl3 hz3 h4 hb4 hz4 ho4 hl4 H2 HL2
  go_wp2_with (refine wpList_load_v rfl _ _ rfl w2.heap.size rfl _ _ H4.out _ Try.underlying37 rfl (by kernel_rfl) ?_; refine Hid.out ?_)
  refine Lib.hid ?_
  go_wp2_with fail
  refine (HCP.out w4 (HT.out.below' HL4.out HL4.out.size)).mono ?_
  rintro e w5 ⟨A', c', rfl, _, hl5⟩
  have H25 := Lib.hid (H24.out.below hl5 H24.out.lt)
  have HL5 := Lib.hid (HL4.out.trans hl5)
  clear hl5 H4 H24 HL4
  go_wp2_with (refine wpList_store_vq rfl _ _ _ rfl w.heap.size rfl (vdC ⟨x.n, x.f, x.u, A', x.k, c', x.t⟩) rfl _ _ H25.out rfl (by kernel_rfl) (vdC_one _) ?_; intro w6 h6 hb6 hz6 ho6; refine Hid.out ?_)
  refine Lib.hid ?_
  have HL6 := Lib.hid (Below.trans HL5.out hb6)
  have H6 := Lib.hid h6
  clear h6 hb6 hz6 ho6 H25 HL5
  go_wp2_with fail
  refine bodyPost_ret (results_cell_tmp rfl _ _ w.heap.size _ _ _ _ _ rfl rfl H6.out Try.underlying37 rfl (by kernel_rfl)) rfl ?_
  exact ⟨A', c', rfl, HL6.out⟩
end Go.Proofs.Ytedldebomoplmaa
