/- What six.changed, Nearer, To and Sized tell of any bytes. Condition: at most 2^47 bytes. -/
import Derived.Test.YtpaikenchbeenaaSxF
import Derived.Test.YtpaikenchbeenaaSxD
namespace Go.Proofs.Ytpaikenchbeenaa
open Go.RowKit
set_option linter.unusedVariables false

/-- bytes and a number handed back -/
def GivesR (w : World) (n : Nat) (ys : List Int) (er : Int) (e : Ending) (w' : World) : Prop :=
  ∃ A c, e = .returned (.tuple #[.slice A n c, .int .i64 er]) ∧ n ≤ c ∧ c ≤ 9223372036854775807 ∧ Bs w' w'.heap.size A n ys ∧ Below w.heap.size w w'

theorem Bs.cut40 {w : World} {B n : Nat} {A : Option Addr} {xs : List Int} (c : Nat) (h : Bs w B A n xs) (h40 : 40 ≤ n) : ∀ A', (¬ n = 40 → ∀ b o, A = some ⟨b, o, none⟩ → A' = some ⟨b, o + 40, none⟩) → Bs w B A' (n - 40) (xs.drop 40) := fun A' hA =>
  ⟨by rw [List.length_drop, h.len], h.all.drop 40, fun hp => by
    obtain ⟨b, o, e, hb, hc⟩ := h.mem (by omega)
    refine ⟨b, o + 40, hA (by omega) b o e, hb, fun i hi => ?_⟩
    rw [Nat.add_assoc, hc (40 + i) (by omega)]
    simp [List.getD]⟩
section
variable (k : Nat) (cap : Array Value) (A : Option Addr) (n c : Nat) (xs : List Int) (w : World) (hn : n ≤ 140737488355328) (hc : n ≤ c) (hc2 : c ≤ 9223372036854775807) (hb : Bs w w.heap.size A n xs)
include hn hc hc2 hb
set_option maxHeartbeats 1600000 in
set_option maxRecDepth 100000 in
theorem changed_err (er : Int) (h : Hd) (her : getE xs = er) (hh : getH xs = h) (he : ¬ er = 0) :
    Calls Try.prog 27 #[.slice A n c, .func (.func k) #[] cap] w fun e w' => GivesR w 0 [] er e w' := by
  have HO := Lib.hid (getH_ok hb.all)
  rw [hh] at HO
  go_enter Try.func27, Try.ntmps27
  go_wp2_with fail
  refine (get_any A n c xs w hn hc hc2 hb).mono ?_
  rintro e w1 ⟨rfl, hL⟩
  rw [her, hh]
  clear her hh
  unfold headV
  go_wp2_with ((with_reducible refine wpList_alloc_v rfl 25 rfl (headC zeroH) (by kernel_rfl) ?_); intro w2 HZ hl2 hz2; refine Hid.out ?_)
  refine Lib.hid ?_
  replace HZ := Lib.hid HZ
  have hL1 : Low w w1 := hL
  replace hL := Low.trans hL hl2
  clear hl2
  have HS := Lib.hid HO.out.s
  have HD := Lib.hid HO.out.d
  go_wp2_with ((with_reducible refine wpList_store_head rfl (.tmp 6) (.tmp 11) rfl w1.heap.size rfl h rfl zeroH HZ.out rfl rfl HS.out HD.out ?_); intro w8 HG8 hb8 hz8)
  go_ret2
  exact ⟨none, 0, rfl, Nat.le_refl _, by omega, Bs.nil _ _ _, Below.trans hL (hb8.mono hL1.size)⟩

set_option maxHeartbeats 1600000 in
set_option maxRecDepth 100000 in
theorem changed_how (h h2 : Hd) (e2 : Int) (her : getE xs = 0) (hh : getH xs = h) (h2ok : h2.ok) (he2 : ¬ e2 = 0) (hcf : ∀ (ys : Array Value) (u : World), (callFunc k ys).run Try.prog u = .ok (.enter k ys) u)
    (hH : ∀ w1, Low w w1 → Calls Try.prog k (#[headV h] ++ cap) w1 fun e w' => GivesH w1 h2 e2 e w') :
    Calls Try.prog 27 #[.slice A n c, .func (.func k) #[] cap] w fun e w' => GivesR w 0 [] e2 e w' := by
  have HO := Lib.hid (getH_ok hb.all)
  rw [hh] at HO
  have HO2 := Lib.hid h2ok
  clear h2ok
  go_enter Try.func27, Try.ntmps27
  go_wp2_with fail
  refine (get_any A n c xs w hn hc hc2 hb).mono ?_
  rintro e w1 ⟨rfl, hL⟩
  rw [her, hh]
  clear her hh
  unfold headV
  go_wp2_with ((with_reducible refine wpList_alloc_v rfl 25 rfl (headC zeroH) (by kernel_rfl) ?_); intro w2 HZ hl2 hz2; refine Hid.out ?_)
  refine Lib.hid ?_
  replace HZ := Lib.hid HZ
  have hL1 : Low w w1 := hL
  replace hL := Low.trans hL hl2
  clear hl2
  have HS := Lib.hid HO.out.s
  have HD := Lib.hid HO.out.d
  go_wp2_with ((with_reducible refine wpList_store_head rfl (.tmp 6) (.tmp 11) rfl w1.heap.size rfl h rfl zeroH HZ.out rfl rfl HS.out HD.out ?_); intro w8 HG8 hb8 hz8; refine Hid.out ?_)
  refine Lib.hid ?_
  replace HG8 := Lib.hid HG8
  replace hL := Below.trans hL (hb8.mono hL1.size)
  clear HZ hb8 hz8 hz2
  go_wp2_with (with_reducible refine wpList_load_head rfl (.tmp 6) rfl w1.heap.size rfl h HG8.out HS.out HD.out ?_)
  refine (hH w8 hL).mono ?_
  rintro e w9 ⟨rfl, hl9⟩
  unfold headV
  replace HG8 := Lib.hid (HG8.out.below hl9 HG8.out.lt)
  have hL9 : Low w w9 := Low.trans hL hl9
  have hlt8 := HG8.out.lt
  have HS2 := Lib.hid HO2.out.s
  have HD2 := Lib.hid HO2.out.d
  clear hl9 hH
  go_wp2_with ((with_reducible refine wpList_store_head rfl (.tmp 6) (.tmp 20) rfl w1.heap.size rfl h2 rfl h HG8.out HS.out HD.out HS2.out HD2.out ?_); intro w10 HG10 hb10 hz10)
  go_ret2
  exact ⟨none, 0, rfl, Nat.le_refl _, by omega, Bs.nil _ _ _, Below.trans hL9 (hb10.mono hL1.size)⟩

set_option maxHeartbeats 1600000 in
set_option maxRecDepth 100000 in
theorem changed_ok (h h2 : Hd) (her : getE xs = 0) (hh : getH xs = h) (h2ok : h2.ok) (h40 : 40 ≤ n) (hcf : ∀ (ys : Array Value) (u : World), (callFunc k ys).run Try.prog u = .ok (.enter k ys) u)
    (hH : ∀ w1, Low w w1 → Calls Try.prog k (#[headV h] ++ cap) w1 fun e w' => GivesH w1 h2 0 e w') :
    Calls Try.prog 27 #[.slice A n c, .func (.func k) #[] cap] w fun e w' => GivesR w ((putL h2).length + (n - 40)) (putL h2 ++ xs.drop 40) 0 e w' := by
  have HO := Lib.hid (getH_ok hb.all)
  rw [hh] at HO
  have HO2 := Lib.hid h2ok
  clear h2ok
  go_enter Try.func27, Try.ntmps27
  go_wp2_with fail
  refine (get_any A n c xs w hn hc hc2 hb).mono ?_
  rintro e w1 ⟨rfl, hL⟩
  rw [her, hh]
  clear her hh
  unfold headV
  go_wp2_with ((with_reducible refine wpList_alloc_v rfl 25 rfl (headC zeroH) (by kernel_rfl) ?_); intro w2 HZ hl2 hz2; refine Hid.out ?_)
  refine Lib.hid ?_
  replace HZ := Lib.hid HZ
  have hL1 : Low w w1 := hL
  replace hL := Low.trans hL hl2
  clear hl2
  have HS := Lib.hid HO.out.s
  have HD := Lib.hid HO.out.d
  go_wp2_with ((with_reducible refine wpList_store_head rfl (.tmp 6) (.tmp 11) rfl w1.heap.size rfl h rfl zeroH HZ.out rfl rfl HS.out HD.out ?_); intro w8 HG8 hb8 hz8; refine Hid.out ?_)
  refine Lib.hid ?_
  replace HG8 := Lib.hid HG8
  replace hL := Below.trans hL (hb8.mono hL1.size)
  clear HZ hb8 hz8 hz2
  go_wp2_with (with_reducible refine wpList_load_head rfl (.tmp 6) rfl w1.heap.size rfl h HG8.out HS.out HD.out ?_)
  refine (hH w8 hL).mono ?_
  rintro e w9 ⟨rfl, hl9⟩
  unfold headV
  replace HG8 := Lib.hid (HG8.out.below hl9 HG8.out.lt)
  have hL9 : Low w w9 := Low.trans hL hl9
  have hlt8 := HG8.out.lt
  have HS2 := Lib.hid HO2.out.s
  have HD2 := Lib.hid HO2.out.d
  clear hl9 hH
  go_wp2_with ((with_reducible refine wpList_store_head rfl (.tmp 6) (.tmp 20) rfl w1.heap.size rfl h2 rfl h HG8.out HS.out HD.out HS2.out HD2.out ?_); intro w10 HG10 hb10 hz10; refine Hid.out ?_)
  refine Lib.hid ?_
  replace hL9 := Below.trans hL9 (hb10.mono hL1.size)
  replace HG10 := Lib.hid HG10
  clear HG8 hb10 hz10 hL
  go_wp2_with fail
  replace hb := hb.below' hL9 hL9.size
  refine wp_region_plan (.rd 0 (.rd 2 (.rd 3 (.act 1 (.act 4 (.act 5 (.rd 6 (.rd 7 (.done)))))))))
    (by kernel_rfl) (by kernel_rfl) (fun _ _ d _ _ h => by cases d <;> exact h) (by kernel_rfl) ?_
  replace HG10 : Hid (BlkH w10.drew w1.heap.size h2) := HG10
  replace hb : Bs w10.drew w10.drew.heap.size A n xs := hb.drew
  replace hL9 : Low w w10.drew := Below.drew hL9
  generalize w10.drew = w11 at *
  have n40 : (40 : Int) ≤ n := by omega
  have HLn := Lib.hid (show n - 40 ≤ 140737488355328 by omega)
  iterate 3 (refine walkP_read (v := _) rfl (by rfl) (by intro y hy; first | exact exec_load_head rfl (HG10.out.below hy HG10.out.lt) HS2.out HD2.out | (go_simp; try rfl)) ?_; simp only [Act.put, List.setIfInBounds_toArray, List.set_cons_zero, List.set_cons_succ])
  generalize hA40 : (if c = 40 then A else Option.map (fun x : Addr => (⟨x.block, x.off + 40, none⟩ : Addr)) A) = A40
  have hb2 : Bs w11 w11.heap.size A40 (n - 40) (xs.drop 40) := Bs.cut40 c hb h40 A40 (fun hne b o e => by rw [← hA40, if_neg (by omega), e]; rfl)
  clear hA40
  refine walkP_act rfl (by rfl) (fun K hK => ?_)
  go_simp
  refine (put_any none 0 0 [] h2 w11 HO2.out (by omega) (Bs.nil _ _ _)).mono ?_
  rintro e w12 ⟨v, rfl, g12, rfl, hg12, hk12, hl12, ha12, hl⟩
  rw [List.nil_append] at hk12 hl12 ha12
  have hb3 := hk12.bs ha12 hk12.lt (n := (putL h2).length) rfl
  clear hl12 hk12 ha12 hg12
  rw [Nat.zero_add]
  go_simp
  refine hK _ _ hl ?_
  clear hK K
  replace hL9 := hL9.trans hl
  replace hb2 := hb2.below' hl hl.size
  clear hl hb
  have HM : Hid ((putL h2).length ≤ 40) := Lib.hid (by unfold putL; split; exact Nat.le_of_eq (headL_length HO2.out); simp)
  obtain ⟨m, hm⟩ : ∃ m, m = (putL h2).length := ⟨_, rfl⟩
  have HMq := Lib.hid hm
  rw [← hm] at hb3 HM ⊢
  clear hm
  obtain ⟨ps, hps⟩ : ∃ ps, ps = putL h2 := ⟨_, rfl⟩
  have HPq := Lib.hid hps
  rw [← hps] at hb3
  clear hps
  refine walkP_act rfl (by rfl) (fun K hK => ?_)
  go_simp
  refine hK _ _ (Low.alloc _ _) ?_
  clear hK K
  have hl := Low.alloc w12 (.cells #[.slice (some ⟨g12, 0, none⟩) m m, .slice A40 (n - 40) (c - 40)] 26)
  have hrow := heap_alloc_new w12 (.cells #[.slice (some ⟨g12, 0, none⟩) m m, .slice A40 (n - 40) (c - 40)] 26 (0, 0))
  replace hL9 := hL9.trans hl
  replace hb2 := hb2.below' hl hl.size
  replace hb3 := hb3.below' hl hl.size
  clear hl
  generalize w12.alloc (.cells #[.slice (some ⟨g12, 0, none⟩) m m, .slice A40 (n - 40) (c - 40)] 26) = w13 at *
  generalize w12.heap.size = g13 at *
  have HM2 := HM.out
  refine walkP_act rfl (by rfl) (fun K hK => ?_)
  go_simp
  refine (join2 _ _ _ _ _ _ _ _ ps (xs.drop 40) w13 (by omega) hrow hb3 hb2).mono ?_
  rintro e w14 ⟨v, rfl, g14, rfl, hg14, hk14, hl14, ha14, hl⟩
  have hb4 := hk14.bs ha14 hk14.lt hl14
  clear hrow hb2 hb3 hk14 hl14 ha14
  go_simp
  refine hK _ _ hl ?_
  clear hK K
  replace hL9 := hL9.trans hl
  clear hl
  iterate 2 (refine walkP_read (v := _) rfl (by rfl) (by intro y hy; go_simp; try rfl) ?_; simp only [Act.put, List.setIfInBounds_toArray, List.set_cons_zero, List.set_cons_succ])
  unfold walkP
  go_wp2
  go_ret2
  refine ⟨some ⟨g14, 0, none⟩, m + (n - 40), by rw [HMq.out]; rfl, by rw [HMq.out]; exact Nat.le_refl _, by omega, ?_, hL9⟩
  rw [← HMq.out, ← HPq.out]
  exact hb4
end
end Go.Proofs.Ytpaikenchbeenaa
