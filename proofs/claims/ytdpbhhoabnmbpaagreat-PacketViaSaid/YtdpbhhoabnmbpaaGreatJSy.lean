/- Texts joined.
  What six.changed, Nearer, To and Sized tell of any bytes. Condition: at most 2^47 bytes.
  What six.Nearer, To and Sized tell of any bytes. Condition: at most 2^47 bytes.
  What six.Nearer, To and Sized tell of any bytes, whole. Condition: at most 2^47 bytes.
  What the document's own With, Nearer, To and Sized tell of any bytes. Condition: at most 2^47 bytes.
  What the document's own Nearer, To and Sized tell of any bytes, whole: as six does. Condition: at most 2^47 bytes.
-/
import Derived.Test.YtdpbhhoabnmbpaaGreatJSx
set_option maxRecDepth 100000
namespace Go.Proofs.YtdpbhhoabnmbpaaGreat
open Go.RowKit
set_option linter.unusedVariables false

/-- bytes and a number handed back -/
def GivesR (w : World) (n : Nat) (ys : List Int) (er : Int) (e : Ending) (w' : World) : Prop :=
  ∃ A c, e = .returned (.tuple #[.slice A n c, .int .i64 er]) ∧ n ≤ c ∧ c ≤ 9223372036854775807 ∧ Bs w' w'.heap.size A n ys ∧ Below w.heap.size w w'

/-- the same, and the bytes are a row of the call's own -/
def GivesRO (w : World) (n : Nat) (ys : List Int) (er : Int) (e : Ending) (w' : World) : Prop :=
  ∃ A c, e = .returned (.tuple #[.slice A n c, .int .i64 er]) ∧ OwnB 5 w' w.heap.size A n c ys ∧ Below w.heap.size w w'
theorem GivesRO.r {w : World} {n : Nat} {ys : List Int} {er : Int} {e : Ending} {w' : World} (h : GivesRO w n ys er e w') : GivesR w n ys er e w' := by
  obtain ⟨A, c, he, ho, hB⟩ := h
  have hcap := ho.cap
  exact ⟨A, c, he, hcap.1, by have := hcap.2; simp only [maxLen] at this; omega, ho.bs (Nat.le_refl _), hB⟩

theorem Bs.cut40 {w : World} {B n : Nat} {A : Option Addr} {xs : List Int} (c : Nat) (h : Bs w B A n xs) (h40 : 40 ≤ n) : ∀ A', (¬ n = 40 → ∀ b o, A = some ⟨b, o, none⟩ → A' = some ⟨b, o + 40, none⟩) → Bs w B A' (n - 40) (xs.drop 40) := fun A' hA =>
  ⟨by rw [List.length_drop, h.len], h.all.drop 40, fun hp => by
    obtain ⟨b, o, e, hb, hc⟩ := h.mem (by omega)
    refine ⟨b, o + 40, hA (by omega) b o e, hb, fun i hi => ?_⟩
    rw [Nat.add_assoc, hc (40 + i) (by omega)]
    simp [List.getD]⟩
section
variable (k : Nat) (cap : Array Value) (A : Option Addr) (n c : Nat) (xs : List Int) (w : World) (hn : n ≤ 140737488355328) (hc : n ≤ c) (hc2 : c ≤ 9223372036854775807) (hb : Bs w w.heap.size A n xs)
include hn hc hc2 hb
set_option maxHeartbeats 1600000 in
set_option maxRecDepth 100000 in
theorem changed_err (er : Int) (h : Hd) (her : getE xs = er) (hh : getH xs = h) (he : ¬ er = 0) :
    Calls Tryz.prog 99 #[.slice A n c, .func (.func k) #[] cap] w fun e w' => GivesRO w 0 [] er e w' := by
  have HO := Lib.hid (getH_ok hb.all)
  rw [hh] at HO
  go_enter Tryz.func99, Tryz.ntmps99
  go_wp2_with fail
  refine (get_any A n c xs w hn hc hc2 hb).mono ?_
  rintro e w1 ⟨rfl, hL⟩
  rw [her, hh]
  clear her hh
  unfold headV
  go_wp2_with ((with_reducible refine wpList_alloc_v rfl 26 rfl (headC zeroH) (by kernel_rfl) ?_); intro w2 HZ hl2 hz2; refine Hid.out ?_)
  refine Lib.hid ?_
  replace HZ := Lib.hid HZ
  have hL1 : Low w w1 := hL
  replace hL := Low.trans hL hl2
  clear hl2
  have HS := Lib.hid HO.out.s
  have HD := Lib.hid HO.out.d
  go_wp2_with ((with_reducible refine wpList_store_head rfl (.tmp 6) (.tmp 11) rfl w1.heap.size rfl h rfl zeroH HZ.out rfl rfl HS.out HD.out ?_); intro w8 HG8 hb8 hz8)
  go_ret2
  exact ⟨none, 0, rfl, OwnB.none_ _ _ _, Below.trans hL (hb8.mono hL1.size)⟩

set_option maxHeartbeats 1600000 in
set_option maxRecDepth 100000 in
theorem changed_how (h h2 : Hd) (e2 : Int) (her : getE xs = 0) (hh : getH xs = h) (h2ok : h2.ok) (he2 : ¬ e2 = 0) (hcf : ∀ (ys : Array Value) (u : World), (callFunc k ys).run Tryz.prog u = .ok (.enter k ys) u)
    (hH : ∀ w1, Low w w1 → Calls Tryz.prog k (#[headV h] ++ cap) w1 fun e w' => GivesH w1 h2 e2 e w') :
    Calls Tryz.prog 99 #[.slice A n c, .func (.func k) #[] cap] w fun e w' => GivesRO w 0 [] e2 e w' := by
  have HO := Lib.hid (getH_ok hb.all)
  rw [hh] at HO
  have HO2 := Lib.hid h2ok
  clear h2ok
  go_enter Tryz.func99, Tryz.ntmps99
  go_wp2_with fail
  refine (get_any A n c xs w hn hc hc2 hb).mono ?_
  rintro e w1 ⟨rfl, hL⟩
  rw [her, hh]
  clear her hh
  unfold headV
  go_wp2_with ((with_reducible refine wpList_alloc_v rfl 26 rfl (headC zeroH) (by kernel_rfl) ?_); intro w2 HZ hl2 hz2; refine Hid.out ?_)
  refine Lib.hid ?_
  replace HZ := Lib.hid HZ
  have hL1 : Low w w1 := hL
  replace hL := Low.trans hL hl2
  clear hl2
  have HS := Lib.hid HO.out.s
  have HD := Lib.hid HO.out.d
  go_wp2_with ((with_reducible refine wpList_store_head rfl (.tmp 6) (.tmp 11) rfl w1.heap.size rfl h rfl zeroH HZ.out rfl rfl HS.out HD.out ?_); intro w8 HG8 hb8 hz8; refine Hid.out ?_)
  refine Lib.hid ?_
  replace HG8 := Lib.hid HG8
  replace hL := Below.trans hL (hb8.mono hL1.size)
  clear HZ hb8 hz8 hz2
  go_wp2_with (with_reducible refine wpList_load_head rfl (.tmp 6) rfl w1.heap.size rfl h HG8.out HS.out HD.out ?_)
  refine (hH w8 hL).mono ?_
  rintro e w9 ⟨rfl, hl9⟩
  unfold headV
  replace HG8 := Lib.hid (HG8.out.below hl9 HG8.out.lt)
  have hL9 : Low w w9 := Low.trans hL hl9
  have hlt8 := HG8.out.lt
  have HS2 := Lib.hid HO2.out.s
  have HD2 := Lib.hid HO2.out.d
  clear hl9 hH
  go_wp2_with ((with_reducible refine wpList_store_head rfl (.tmp 6) (.tmp 20) rfl w1.heap.size rfl h2 rfl h HG8.out HS.out HD.out HS2.out HD2.out ?_); intro w10 HG10 hb10 hz10)
  go_ret2
  exact ⟨none, 0, rfl, OwnB.none_ _ _ _, Below.trans hL9 (hb10.mono hL1.size)⟩

set_option maxHeartbeats 1600000 in
set_option maxRecDepth 100000 in
theorem changed_ok (h h2 : Hd) (her : getE xs = 0) (hh : getH xs = h) (h2ok : h2.ok) (h40 : 40 ≤ n) (hcf : ∀ (ys : Array Value) (u : World), (callFunc k ys).run Tryz.prog u = .ok (.enter k ys) u)
    (hH : ∀ w1, Low w w1 → Calls Tryz.prog k (#[headV h] ++ cap) w1 fun e w' => GivesH w1 h2 0 e w') :
    Calls Tryz.prog 99 #[.slice A n c, .func (.func k) #[] cap] w fun e w' => GivesRO w ((putL h2).length + (n - 40)) (putL h2 ++ xs.drop 40) 0 e w' := by
  have HO := Lib.hid (getH_ok hb.all)
  rw [hh] at HO
  have HO2 := Lib.hid h2ok
  clear h2ok
  go_enter Tryz.func99, Tryz.ntmps99
  go_wp2_with fail
  refine (get_any A n c xs w hn hc hc2 hb).mono ?_
  rintro e w1 ⟨rfl, hL⟩
  rw [her, hh]
  clear her hh
  unfold headV
  go_wp2_with ((with_reducible refine wpList_alloc_v rfl 26 rfl (headC zeroH) (by kernel_rfl) ?_); intro w2 HZ hl2 hz2; refine Hid.out ?_)
  refine Lib.hid ?_
  replace HZ := Lib.hid HZ
  have hL1 : Low w w1 := hL
  replace hL := Low.trans hL hl2
  clear hl2
  have HS := Lib.hid HO.out.s
  have HD := Lib.hid HO.out.d
  go_wp2_with ((with_reducible refine wpList_store_head rfl (.tmp 6) (.tmp 11) rfl w1.heap.size rfl h rfl zeroH HZ.out rfl rfl HS.out HD.out ?_); intro w8 HG8 hb8 hz8; refine Hid.out ?_)
  refine Lib.hid ?_
  replace HG8 := Lib.hid HG8
  replace hL := Below.trans hL (hb8.mono hL1.size)
  clear HZ hb8 hz8 hz2
  go_wp2_with (with_reducible refine wpList_load_head rfl (.tmp 6) rfl w1.heap.size rfl h HG8.out HS.out HD.out ?_)
  refine (hH w8 hL).mono ?_
  rintro e w9 ⟨rfl, hl9⟩
  unfold headV
  replace HG8 := Lib.hid (HG8.out.below hl9 HG8.out.lt)
  have hL9 : Low w w9 := Low.trans hL hl9
  have hlt8 := HG8.out.lt
  have HS2 := Lib.hid HO2.out.s
  have HD2 := Lib.hid HO2.out.d
  clear hl9 hH
  go_wp2_with ((with_reducible refine wpList_store_head rfl (.tmp 6) (.tmp 20) rfl w1.heap.size rfl h2 rfl h HG8.out HS.out HD.out HS2.out HD2.out ?_); intro w10 HG10 hb10 hz10; refine Hid.out ?_)
  refine Lib.hid ?_
  replace hL9 := Below.trans hL9 (hb10.mono hL1.size)
  replace HG10 := Lib.hid HG10
  clear HG8 hb10 hz10 hL
  go_wp2_with fail
  replace hb := hb.below' hL9 hL9.size
  refine wp_region_plan (.rd 0 (.rd 2 (.rd 3 (.act 1 (.act 4 (.act 5 (.rd 6 (.rd 7 (.done)))))))))
    (by kernel_rfl) (by kernel_rfl) (fun _ _ d _ _ h => by cases d <;> exact h) (by kernel_rfl) ?_
  replace HG10 : Hid (BlkH w10.drew w1.heap.size h2) := HG10
  replace hb : Bs w10.drew w10.drew.heap.size A n xs := hb.drew
  replace hL9 : Low w w10.drew := Below.drew hL9
  generalize w10.drew = w11 at *
  have n40 : (40 : Int) ≤ n := by omega
  have HLn := Lib.hid (show n - 40 ≤ 140737488355328 by omega)
  iterate 3 (refine walkP_read (v := _) rfl (by rfl) (by intro y hy; first | exact exec_load_head rfl (HG10.out.below hy HG10.out.lt) HS2.out HD2.out | (go_simp; try rfl)) ?_; simp only [Act.put, List.setIfInBounds_toArray, List.set_cons_zero, List.set_cons_succ])
  generalize hA40 : (if c = 40 then A else Option.map (fun x : Addr => (⟨x.block, x.off + 40, none⟩ : Addr)) A) = A40
  have hb2 : Bs w11 w11.heap.size A40 (n - 40) (xs.drop 40) := Bs.cut40 c hb h40 A40 (fun hne b o e => by rw [← hA40, if_neg (by omega), e]; rfl)
  clear hA40
  refine walkP_act rfl (by rfl) (fun K hK => ?_)
  go_simp
  refine (put_any none 0 0 [] h2 w11 HO2.out (by omega) (Bs.nil _ _ _)).mono ?_
  rintro e w12 ⟨v, rfl, g12, rfl, hg12, hk12, hl12, ha12, hl⟩
  rw [List.nil_append] at hk12 hl12 ha12
  have hb3 := hk12.bs ha12 hk12.lt (n := (putL h2).length) rfl
  clear hl12 hk12 ha12 hg12
  rw [Nat.zero_add]
  go_simp
  refine hK _ _ hl ?_
  clear hK K
  replace hL9 := hL9.trans hl
  replace hb2 := hb2.below' hl hl.size
  clear hl hb
  have HM : Hid ((putL h2).length ≤ 40) := Lib.hid (by unfold putL; split; exact Nat.le_of_eq (headL_length HO2.out); simp)
  obtain ⟨m, hm⟩ : ∃ m, m = (putL h2).length := ⟨_, rfl⟩
  have HMq := Lib.hid hm
  rw [← hm] at hb3 HM ⊢
  clear hm
  obtain ⟨ps, hps⟩ : ∃ ps, ps = putL h2 := ⟨_, rfl⟩
  have HPq := Lib.hid hps
  rw [← hps] at hb3
  clear hps
  refine walkP_act rfl (by rfl) (fun K hK => ?_)
  go_simp
  refine hK _ _ (Low.alloc _ _) ?_
  clear hK K
  have hl := Low.alloc w12 (.cells #[.slice (some ⟨g12, 0, none⟩) m m, .slice A40 (n - 40) (c - 40)] 22)
  have hrow := heap_alloc_new w12 (.cells #[.slice (some ⟨g12, 0, none⟩) m m, .slice A40 (n - 40) (c - 40)] 22 (0, 0))
  replace hL9 := hL9.trans hl
  replace hb2 := hb2.below' hl hl.size
  replace hb3 := hb3.below' hl hl.size
  clear hl
  generalize w12.alloc (.cells #[.slice (some ⟨g12, 0, none⟩) m m, .slice A40 (n - 40) (c - 40)] 22) = w13 at *
  generalize w12.heap.size = g13 at *
  have HM2 := HM.out
  refine walkP_act rfl (by rfl) (fun K hK => ?_)
  go_simp
  refine (join2 _ _ _ _ _ _ _ _ ps (xs.drop 40) w13 (by omega) hrow hb3 hb2).mono ?_
  rintro e w14 ⟨v, rfl, g14, rfl, hg14, hk14, hl14, ha14, hl⟩
  have hsz14 := hL9.size
  have hb4 : OwnB 5 w14 w.heap.size (some ⟨g14, 0, none⟩) (m + (n - 40)) (m + (n - 40)) (ps ++ xs.drop 40) := OwnB.ofBlk hk14 ha14 (by omega) hl14 (by simp only [maxLen]; omega)
  clear hrow hb2 hb3 hk14 hl14 ha14
  go_simp
  refine hK _ _ hl ?_
  clear hK K
  replace hL9 := hL9.trans hl
  clear hl
  iterate 2 (refine walkP_read (v := _) rfl (by rfl) (by intro y hy; go_simp; try rfl) ?_; simp only [Act.put, List.setIfInBounds_toArray, List.set_cons_zero, List.set_cons_succ])
  unfold walkP
  go_wp2
  go_ret2
  refine ⟨some ⟨g14, 0, none⟩, m + (n - 40), by rw [HMq.out]; rfl, ?_, hL9⟩
  rw [← HMq.out, ← HPq.out]
  exact hb4
end
end Go.Proofs.YtdpbhhoabnmbpaaGreat

namespace Go.Proofs.YtdpbhhoabnmbpaaGreat
open Go.RowKit
set_option linter.unusedVariables false

/-- one hop less; for somebody else; as long as it is -/
def nearH (h : Hd) : Hd := { h with hp := h.hp - 1 }
def toH (d : List Int) (h : Hd) : Hd := { h with d := d }
def sizedH (m : Int) (h : Hd) : Hd := { h with ln := m }
theorem toH_ok {d : List Int} {h : Hd} (hk : h.ok) (hd : d.length = 16) (vd : AllB d) : (toH d h).ok := ⟨hk.cl, hk.lb, hk.ln, hk.nx, hk.hp, hk.s, hd, hk.vs, vd⟩
theorem sizedH_ok {m : Int} {h : Hd} (hk : h.ok) (hm : i64ok m) : (sizedH m h).ok := ⟨hk.cl, hk.lb, hm, hk.nx, hk.hp, hk.s, hk.d, hk.vs, hk.vd⟩
theorem nearH_ok {h : Hd} (hk : h.ok) (hm : 1 < h.hp) : (nearH h).ok := ⟨hk.cl, hk.lb, hk.ln, hk.nx, by have := hk.hp; unfold i64ok nearH at *; dsimp only; omega, hk.s, hk.d, hk.vs, hk.vd⟩

def setCs (vs : List Value) (o : Nat) : List Value → List Value
  | [] => vs
  | u :: r => setCs (vs.set o u) (o + 1) r
theorem BlkV.setMid {t : TypeId} {g : Nat} : ∀ (us : List Value) (o : Nat) (w : World) (vs : List Value), BlkV w t g vs → BlkV (w.setCells g o us) t g (setCs vs o us)
  | [], _, _, _, h => h
  | u :: r, o, w, vs, h => BlkV.setMid r (o + 1) _ _ (h.set_ o u)
theorem low_setMid {B g : Nat} (hg : B ≤ g) : ∀ (us : List Value) (o : Nat) (w w0 : World), Below B w0 w → Below B w0 (w.setCells g o us)
  | [], _, _, _, h => h
  | u :: r, o, w, w0, h => low_setMid hg r (o + 1) _ _ (h.setCell (p := ⟨g, o, none⟩) hg u)
theorem setCs_dst (h : Hd) (d : List Int) (hs : h.s.length = 16) (hd : h.d.length = 16) (hn : d.length = 16) : setCs (headC h) 21 (cellsB d) = headC (toH d h) := by
  obtain ⟨a, b, c, dd, e, s, t⟩ := h
  obtain ⟨s0, s1, s2, s3, s4, s5, s6, s7, s8, s9, s10, s11, s12, s13, s14, s15, rfl⟩ := list16 s hs
  obtain ⟨d0, d1, d2, d3, d4, d5, d6, d7, d8, d9, d10, d11, d12, d13, d14, d15, rfl⟩ := list16 t hd
  obtain ⟨e0, e1, e2, e3, e4, e5, e6, e7, e8, e9, e10, e11, e12, e13, e14, e15, rfl⟩ := list16 d hn
  kernel_rfl
theorem BlkV.there {w : World} {t : TypeId} {g : Nat} {vs : List Value} (h : BlkV w t g vs) (o n : Nat) (hn : o + n ≤ vs.length) : w.there g o n := fun j hj =>
  ⟨by rw [h.cell, List.getElem?_eq_getElem (by omega)]; rfl, h.frozen _⟩
section
variable (h : Hd) (gb : Nat) (A : Option Addr) (n c : Nat) (t : TypeId) (w : World) (hk : h.ok) (hn : n ≤ 140737488355328) (hb : BlkV w t gb [.slice A n c])
include hk hn hb
set_option maxHeartbeats 1600000 in
set_option maxRecDepth 100000 in
theorem sized1_no (hl : 65535 < (n : Int) - 40) :
    Calls Tryz.prog 100 #[headV h, .pointer (some ⟨gb, 0, none⟩)] w fun e w' => GivesH w h 4 e w' := by
  unfold headV
  have HO := Lib.hid hk
  have HS := Lib.hid hk.s
  have HD := Lib.hid hk.d
  clear hk
  go_enter Tryz.func100, Tryz.ntmps100
  go_wp2_with ((with_reducible refine wpList_box_v rfl 26 (.tmp 0) rfl (headC h) rfl ?_); intro w1 HB1 hl1 hz1; refine Hid.out ?_)
  refine Lib.hid ?_
  go_wp2_with ((with_reducible refine wpList_alloc_v rfl 26 rfl (headC zeroH) (by kernel_rfl) ?_); intro w2 HZ hl2 hz2; refine Hid.out ?_)
  refine Lib.hid ?_
  have HB := Lib.hid (HB1.below hl2 HB1.lt)
  have hL := hl1.trans hl2
  have c0 := (BlkV.below hb hL hb.lt).cell 0
  replace c0 : _ = some (Value.slice A n c) := c0
  replace HZ := Lib.hid HZ
  rw [hz1] at HZ
  clear HB1 hl1 hl2 hz1 hz2 hb
  go_wp2_with (first
    | (with_reducible refine wpList_load_head rfl (.tmp 2) rfl w.heap.size rfl h HB.out HS.out HD.out ?_)
    | ((with_reducible refine wpList_store_head rfl (.tmp 3) (.tmp 11) rfl (w.heap.size + 1) rfl h rfl zeroH HZ.out rfl rfl HS.out HD.out ?_); intro w8 HG8 hb8 hz8))
  exact ret_head Tryz.results100 rfl rfl HG8 HS.out HD.out ⟨rfl, Below.trans hL (hb8.mono (by omega))⟩ rfl
set_option maxHeartbeats 1600000 in
set_option maxRecDepth 100000 in
theorem sized1_yes (hl : (n : Int) - 40 ≤ 65535) :
    Calls Tryz.prog 100 #[headV h, .pointer (some ⟨gb, 0, none⟩)] w fun e w' => GivesH w (sizedH ((n : Int) - 40) h) 0 e w' := by
  unfold headV
  have HO := Lib.hid hk
  have HS : Hid ((sizedH ((n : Int) - 40) h).s.length = 16) := Lib.hid hk.s
  have HD : Hid ((sizedH ((n : Int) - 40) h).d.length = 16) := Lib.hid hk.d
  clear hk
  go_enter Tryz.func100, Tryz.ntmps100
  go_wp2_with ((with_reducible refine wpList_box_v rfl 26 (.tmp 0) rfl (headC h) rfl ?_); intro w1 HB1 hl1 hz1; refine Hid.out ?_)
  refine Lib.hid ?_
  go_wp2_with ((with_reducible refine wpList_alloc_v rfl 26 rfl (headC zeroH) (by kernel_rfl) ?_); intro w2 HZ hl2 hz2; refine Hid.out ?_)
  refine Lib.hid ?_
  have HB := Lib.hid (HB1.below hl2 HB1.lt)
  have hL := hl1.trans hl2
  have c0 := (BlkV.below hb hL hb.lt).cell 0
  replace c0 : _ = some (Value.slice A n c) := c0
  replace HZ := Lib.hid HZ
  rw [hz1] at HZ
  have c2 := HB.out.cell 2
  have f2 := HB.out.frozen 2
  replace c2 : _ = some (Value.int .i64 h.ln) := c2
  have HB2 : Hid (BlkH (w2.setCell ⟨w.heap.size, 2, none⟩ (.int .i64 ((n : Int) - 40))) w.heap.size (sizedH ((n : Int) - 40) h)) := Lib.hid (BlkV.set_ HB.out 2 (.int .i64 ((n : Int) - 40)))
  have HZ2 := Lib.hid (HZ.out.far (p := ⟨w.heap.size, 2, none⟩) (by simp) (.int .i64 ((n : Int) - 40)))
  have hL2 := hL.setCell (p := ⟨w.heap.size, 2, none⟩) (Nat.le_refl _) (.int .i64 ((n : Int) - 40))
  clear HB1 hl1 hl2 hz1 hz2 hb HB HZ hL
  go_wp2_with (first
    | (with_reducible refine wpList_load_head rfl (.tmp 2) rfl w.heap.size rfl (sizedH ((n : Int) - 40) h) HB2.out HS.out HD.out ?_)
    | ((with_reducible refine wpList_store_head rfl (.tmp 3) (.tmp 14) rfl (w.heap.size + 1) rfl (sizedH ((n : Int) - 40) h) rfl zeroH HZ2.out rfl rfl HS.out HD.out ?_); intro w8 HG8 hb8 hz8))
  exact ret_head Tryz.results100 rfl rfl HG8 HS.out HD.out ⟨rfl, Below.trans hL2 (hb8.mono (by omega))⟩ rfl
end
end Go.Proofs.YtdpbhhoabnmbpaaGreat

namespace Go.Proofs.YtdpbhhoabnmbpaaGreat
open Go.RowKit
set_option linter.unusedVariables false

def outE (xs : List Int) (e2 : Int) : Int := if getE xs = 0 then e2 else getE xs
def outL (xs : List Int) (h2 : Hd) (e2 : Int) : List Int := if outE xs e2 = 0 then putL h2 ++ xs.drop 40 else []
def szE (xs : List Int) : Int := if 65535 < (xs.length : Int) - 40 then 4 else 0
def szH (xs : List Int) : Hd := if 65535 < (xs.length : Int) - 40 then getL xs else sizedH ((xs.length : Int) - 40) (getL xs)
theorem getE_zero {xs : List Int} (h : getE xs = 0) : 40 ≤ xs.length ∧ xs.getD 0 0 / 16 = 6 ∧ getH xs = getL xs := by
  rcases getE_cases xs with ⟨h1, e1, e2⟩ | ⟨h1, h2, e1, e2⟩ | ⟨h1, h2, e1, e2⟩
  · omega
  · exact ⟨h1, h2, e2⟩
  · omega

section
variable (k : Nat) (cap : Array Value) (A : Option Addr) (n c : Nat) (xs : List Int) (w : World) (hn : n ≤ 140737488355328) (hc : n ≤ c) (hc2 : c ≤ 9223372036854775807) (hb : Bs w w.heap.size A n xs)
include hn hc hc2 hb
theorem changed_all (h2 : Hd) (e2 : Int) (h2ok : getE xs = 0 → h2.ok) (hcf : ∀ (ys : Array Value) (u : World), (callFunc k ys).run Tryz.prog u = .ok (.enter k ys) u)
    (hH : getE xs = 0 → ∀ w1, Low w w1 → Calls Tryz.prog k (#[headV (getL xs)] ++ cap) w1 fun e w' => GivesH w1 h2 e2 e w') :
    Calls Tryz.prog 99 #[.slice A n c, .func (.func k) #[] cap] w fun e w' => GivesRO w (outL xs h2 e2).length (outL xs h2 e2) (outE xs e2) e w' := by
  by_cases he : getE xs = 0
  · obtain ⟨g1, g2, g3⟩ := getE_zero he
    have hl := hb.len
    by_cases h0 : e2 = 0
    · subst h0
      have e1 : outE xs 0 = 0 := by unfold outE; rw [if_pos he]
      have e3 : outL xs h2 0 = putL h2 ++ xs.drop 40 := by unfold outL; rw [if_pos e1]
      have e4 : (putL h2 ++ xs.drop 40).length = (putL h2).length + (n - 40) := by rw [List.length_append, List.length_drop, hl]
      rw [e1, e3, e4]
      exact changed_ok k cap A n c xs w hn hc hc2 hb (getL xs) h2 he g3 (h2ok he) (by omega) hcf (hH he)
    · have e1 : outE xs e2 = e2 := by unfold outE; rw [if_pos he]
      have e3 : outL xs h2 e2 = [] := by unfold outL; rw [if_neg (by rw [e1]; exact h0)]
      rw [e1, e3]
      exact changed_how k cap A n c xs w hn hc hc2 hb (getL xs) h2 e2 he g3 (h2ok he) h0 hcf (hH he)
  · have e1 : outE xs e2 = getE xs := by unfold outE; rw [if_neg he]
    have e3 : outL xs h2 e2 = [] := by unfold outL; rw [if_neg (by rw [e1]; exact he)]
    rw [e1, e3]
    exact changed_err k cap A n c xs w hn hc hc2 hb (getE xs) (getH xs) rfl rfl he

set_option maxHeartbeats 800000 in
theorem sized_own : Calls Tryz.prog 75 #[.slice A n c] w fun e w' => GivesRO w (outL xs (szH xs) (szE xs)).length (outL xs (szH xs) (szE xs)) (outE xs (szE xs)) e w' := by
  have hmf : ∀ (fn : Fn) (first cap : Array Value) (u : World), (Instr.makeFunc fn first cap).run Tryz.prog u = .ok (.func fn first cap) u := fun _ _ _ _ => rfl
  have HB := Lib.hid hb
  have HLen := Lib.hid hb.len
  clear hb
  have hl0 := Low.alloc w (.cells #[.slice A n c] 22)
  have HA : Hid (BlkV (w.alloc (.cells #[.slice A n c] 22)) 22 w.heap.size [.slice A n c]) := Lib.hid (BlkV.new w 22 [.slice A n c])
  have c0 := HA.out.cell 0
  replace c0 : _ = some (Value.slice A n c) := c0
  have HC := Lib.hid (changed_all 100 #[.pointer (some ⟨w.heap.size, 0, none⟩)] A n c xs (w.alloc (.cells #[.slice A n c] 22)) hn hc hc2 (HB.out.below' hl0 hl0.size) (szH xs) (szE xs)
    (fun he => by
      have hk := getL_ok HB.out.all (getE_zero he).1
      unfold szH; split
      · exact hk
      · exact sizedH_ok hk (by unfold i64ok; omega))
    (fun ys u => by go_simp)
    (fun he w2 hl => by
      have hk := getL_ok HB.out.all (getE_zero he).1
      by_cases hp : 65535 < (xs.length : Int) - 40
      · rw [show szH xs = getL xs by unfold szH; rw [if_pos hp], show szE xs = 4 by unfold szE; rw [if_pos hp]]
        exact sized1_no (getL xs) w.heap.size A n c _ w2 hk hn (HA.out.below hl HA.out.lt) (by rw [← HLen.out]; exact hp)
      · rw [show szH xs = sizedH ((xs.length : Int) - 40) (getL xs) by unfold szH; rw [if_neg hp], show szE xs = 0 by unfold szE; rw [if_neg hp], HLen.out]
        exact sized1_yes (getL xs) w.heap.size A n c _ w2 hk hn (HA.out.below hl HA.out.lt) (by rw [← HLen.out]; omega)))
  clear HB HA
  go_enter Tryz.func75, Tryz.ntmps75
  go_wp2_with fail
  refine HC.out.mono ?_
  rintro e w3 ⟨A1, c1, rfl, ho1, hl⟩
  go_wp2
  go_ret2
  exact ⟨A1, c1, rfl, ho1.lower hl0.size, Low.trans hl0 hl⟩
end
end Go.Proofs.YtdpbhhoabnmbpaaGreat

namespace Go.Proofs.YtdpbhhoabnmbpaaGreat
open Go.RowKit
set_option linter.unusedVariables false

section
variable (A : Option Addr) (n c : Nat) (xs : List Int) (w : World) (hn : n ≤ 140737488355328) (hb : Bs w w.heap.size A n xs) (h : Hd) (hh : getH xs = h)
include hn hb hh
end
end Go.Proofs.YtdpbhhoabnmbpaaGreat

namespace Go.Proofs.YtdpbhhoabnmbpaaGreat
open Go.RowKit
set_option linter.unusedVariables false

section
variable (A : Option Addr) (n c : Nat) (xs : List Int) (w : World) (hn : n ≤ 140737488355328) (hc : n ≤ c) (hc2 : c ≤ 9223372036854775807) (hb : Bs w w.heap.size A n xs)
include hn hc hc2 hb
end

theorem Bs.take {w : World} {B n : Nat} {A : Option Addr} {xs : List Int} (h : Bs w B A n xs) (k : Nat) (hk : k ≤ n) : Bs w B A k (xs.take k) :=
  ⟨by rw [List.length_take, h.len]; omega, h.all.take k, fun hp => by
    obtain ⟨b, o, e, hb, hc⟩ := h.mem (by omega)
    refine ⟨b, o, e, hb, fun i hi => ?_⟩
    rw [hc i (by omega)]
    simp [List.getD, hi]⟩
end Go.Proofs.YtdpbhhoabnmbpaaGreat
