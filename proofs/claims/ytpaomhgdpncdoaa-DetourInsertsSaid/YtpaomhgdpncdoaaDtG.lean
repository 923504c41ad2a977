/- detour.Remove: any packet without its routing header. Condition: at most 2^47 - 4096 bytes. -/
import Derived.Test.YtpaomhgdpncdoaaDtF
import Derived.Test.YtpaomhgdpncdoaaJSrA
import Derived.Test.YtpaomhgdpncdoaaSlc
namespace Go.Proofs.Ytpaomhgdpncdoaa
open Go.RowKit
set_option linter.unusedVariables false

def setNx (x : Int) (h : Hd) : Hd := { h with nx := x }
theorem setNx_ok {x : Int} {h : Hd} (hk : h.ok) (hx : i64ok x) : (setNx x h).ok := ⟨hk.cl, hk.lb, hk.ln, hx, hk.hp, hk.s, hk.d, hk.vs, hk.vd⟩
theorem setNx_can {x : Int} {h : Hd} (hc : canB h = true) (h0 : 0 ≤ x) (h1 : x ≤ 255) : canB (setNx x h) = true := by
  have := can_range hc
  unfold canB setNx
  rw [decide_eq_true_eq]
  dsimp only
  omega
theorem toH_can {d : List Int} {h : Hd} (hc : canB h = true) : canB (toH d h) = true := hc
/-- the fixed header of a packet without its routing header, but for its Length -/
def offH (xs : List Int) : Hd := toH (segR (saysR (xs.drop 40)).sg 0) (setNx (saysR (xs.drop 40)).nx (getL xs))
def remL (xs : List Int) : List Int := if hdrE xs = 0 then headL (sizedH ((xs.length - (40 + wideR (xs.drop 40)) : Nat) : Int) (offH xs)) ++ xs.drop (40 + wideR (xs.drop 40)) else []
theorem hdr_room {xs : List Int} (ha : AllB xs) (h : hdrE xs = 0) : 40 + wideR (xs.drop 40) ≤ xs.length ∧ xs.length ≤ 65575 ∧ wideR (xs.drop 40) ≤ 2048 ∧ AllA (saysR (xs.drop 40)).sg ∧ 0 ≤ (saysR (xs.drop 40)).nx ∧ (saysR (xs.drop 40)).nx ≤ 255 := by
  obtain ⟨h1, h2, h3⟩ := hdrE_zero h
  obtain ⟨g1, g2, g3, g4, g5⟩ := wholeE_zero h1
  obtain ⟨a1, a2, a3, a4, a5, a6⟩ := aheadR_zero (errR_zero h3).1
  have hr := can_range (getL_can ha)
  have hd := ha.drop 40
  rw [List.length_drop] at a2
  have hf : fromR (xs.drop 40) = 8 + 16 * manyR (xs.drop 40) := rfl
  refine ⟨by omega, by omega, wideR_le hd, chunksR_all _ (hd.drop 8) (by rw [List.length_drop, List.length_drop]; omega), (hd.getD 0).1, ?_⟩
  have := (hd.getD 0).2
  show (xs.drop 40).getD 0 0 ≤ 255
  omega
theorem offH_ok {xs : List Int} (ha : AllB xs) (h : hdrE xs = 0) : (offH xs).ok ∧ canB (offH xs) = true := by
  obtain ⟨r1, r2, r3, r4, r5, r6⟩ := hdr_room ha h
  have h40 := (wholeE_zero (hdrE_zero h).1).2.1
  refine ⟨toH_ok (setNx_ok (getL_ok ha h40) (by unfold i64ok; omega)) (segR_len r4 0) ?_, toH_can (setNx_can (getL_can ha) r5 r6)⟩
  unfold segR
  split
  · exact (r4.getD _).2
  · exact zero_all
theorem walkS_done {P : Program} {ops : Array Oper} {S : World → Prop} {R : List PanicEntry → Act → World → Prop} {Q : Exit → Act → World → Prop} {a : Act} {w : World} (h : Q .normal a w) : walkS P ops (orThrow R Q) S .done a w := h
theorem GivesR.of {w w' : World} {n : Nat} {ys zs : List Int} {er er' : Int} {A : Option Addr} {c : Nat} (hy : ys = zs) (hx : er = er') (hl : zs.length = n) (hc : n ≤ c) (hc2 : c ≤ 9223372036854775807) (h : Bs w' w'.heap.size A n zs) (hB : Low w w') : GivesR w ys.length ys er (.returned (.tuple #[.slice A n c, .int .i64 er'])) w' := by
  subst hy hx hl
  exact ⟨A, c, rfl, hc, hc2, h, hB⟩

section
variable (A : Option Addr) (n c : Nat) (xs : List Int) (w : World) (hn : n ≤ 140737488355328) (hc : n ≤ c) (hc2 : c ≤ 9223372036854775807) (hb : Bs w w.heap.size A n xs)
include hn hc hc2 hb
set_option maxHeartbeats 3200000 in
set_option maxRecDepth 100000 in
theorem remove_any : Calls Try.prog 9 #[.slice A n c] w fun e w' => GivesR w (remL xs).length (remL xs) (hdrE xs) e w' := by
  have hmf : ∀ (fn : Fn) (first cap : Array Value) (u : World), (Instr.makeFunc fn first cap).run Try.prog u = .ok (.func fn first cap) u := fun _ _ _ _ => rfl
  have HB := Lib.hid hb
  have HRL := Lib.hid (show remL xs = if hdrE xs = 0 then headL (sizedH ((xs.length - (40 + wideR (xs.drop 40)) : Nat) : Int) (offH xs)) ++ xs.drop (40 + wideR (xs.drop 40)) else [] from rfl)
  clear hb
  go_enter_defers Try.func9, Try.ntmps9
  go_wp2_with ((with_reducible refine wpList_alloc_e rfl rfl ?_); intro w2 HE hL hz2; refine Hid.out ?_)
  refine Lib.hid ?_
  have hg1 : w.heap.size < w2.heap.size := HE.lt
  replace HE := Lib.hid HE
  clear hz2
  go_wp2_with fail
  refine (routed_all A n c xs w2 hn hc hc2 (HB.out.below' hL hL.size)).mono ?_
  rintro e w3 ⟨h1, h2, hl3⟩
  replace hL := Low.trans hL hl3
  have hsz2 := hl3.size
  replace HE := Lib.hid (HE.out.below hl3 HE.out.lt)
  clear hl3
  by_cases he : hdrE xs = 0
  · obtain ⟨s, rfl, hv, hk, hf⟩ := h2 he
    obtain ⟨hO, hCan⟩ := offH_ok HB.out.all he
    obtain ⟨r1, r2, r3, r4, r5, r6⟩ := hdr_room HB.out.all he
    have h40 := (wholeE_zero (hdrE_zero he).1).2.1
    have hHO := getL_ok HB.out.all h40
    rw [← hv] at r4 r5 r6
    have HOF : Hid (offH xs = toH (segR s.sg 0) (setNx s.nx (getL xs))) := Lib.hid (by unfold offH; rw [← hv]; rfl)
    have HDN : Hid ((segR s.sg 0).length = 16) := Lib.hid (segR_len r4 0)
    have HN0 := Lib.hid (show i64ok s.nx from hk.nx)
    have HCan := Lib.hid hCan
    have HO := Lib.hid hO
    have HK := Lib.hid hk
    have HF := Lib.hid hf
    rw [if_pos he] at HRL
    have HQ := Lib.hid he
    obtain ⟨h, hh⟩ : ∃ h, h = getL xs := ⟨_, rfl⟩
    rw [← hh] at HOF hHO ⊢
    have HS := Lib.hid hHO.s
    have HD := Lib.hid hHO.d
    rw [HB.out.len] at r1 r2 HRL
    obtain ⟨wd, hwd⟩ : ∃ wd, wd = wideR (xs.drop 40) := ⟨_, rfl⟩
    rw [← hwd] at r1 r3 HRL ⊢
    obtain ⟨b, o, rfl, hbl, hcc⟩ := HB.out.mem (by omega)
    obtain ⟨A2, hs2, hA2⟩ := slc_from b o n c (40 + wd) (40 + (wd : Int)) hc (by omega) r1
    have HB2 := Lib.hid (HB.out.cutFrom r1 hA2)
    have HS2 := Lib.hid hs2
    clear h1 h2 hv hk hf hO hCan r4 r5 r6 hh hHO hwd hs2 hA2 hcc hbl he h40
    unfold headV srV
    go_wp2_with ((with_reducible refine wpList_alloc_v rfl 41 rfl (headC zeroH) (by kernel_rfl) ?_); intro w4 HZ4 hl4 hz4; refine Hid.out ?_)
    refine Lib.hid ?_
    clear hz4
    have hg3 : w3.heap.size < w4.heap.size := HZ4.lt
    replace HZ4 := Lib.hid HZ4
    have HLl4 := Lib.hid hl4
    clear hl4
    go_wp2_with ((with_reducible refine wpList_alloc_sr rfl rfl ?_); intro w5 HZ5 hl5 hz5; refine Hid.out ?_)
    refine Lib.hid ?_
    clear hz5
    have hL5 : Low w3 w5 := Low.trans HLl4.out hl5
    replace HZ4 := Lib.hid (HZ4.out.below hl5 HZ4.out.lt)
    replace HZ5 := Lib.hid HZ5
    clear hl5 HLl4
    generalize w4.heap.size = g4 at *
    go_wp2_with ((with_reducible refine wpList_store_headB rfl (.tmp 4) (.tmp 11) rfl w3.heap.size rfl h rfl zeroH HZ4.out rfl rfl HS.out HD.out ?_); intro w6 HG6 hb6 hz6 ho6; refine Hid.out ?_)
    refine Lib.hid ?_
    replace HZ5 := Lib.hid (HZ5.out.others ho6 (by omega))
    replace hL5 : Low w3 w6 := Below.trans hL5 hb6
    replace HG6 := Lib.hid HG6
    clear hb6 hz6 ho6 HZ4
    go_wp2_with ((refine wpList_store_srB rfl (.tmp 5) (.tmp 12) rfl g4 rfl s rfl zeroSr HZ5.out ?_); intro w7 HG7 hb7 hz7 ho7; refine Hid.out ?_)
    refine Lib.hid ?_
    have HG6' := HG6.out.others ho7 (by omega)
    replace hL5 : Low w3 w7 := Below.trans hL5 (hb7.mono (by omega))
    clear hb7 hz7 ho7 HZ5
    have c0 := (BlkR.cells HG7).1
    have f3 := HG6'.frozen 3
    have c3 := HG6'.cell 3
    replace c3 : _ = some (Value.int .i64 h.nx) := c3
    have HG8 : Hid (BlkH (w7.setCell ⟨w3.heap.size, 3, none⟩ (.int .i64 s.nx)) w3.heap.size (setNx s.nx h)) := Lib.hid (BlkV.set_ HG6' 3 (.int .i64 s.nx))
    have HR8 : Hid (BlkR (w7.setCell ⟨w3.heap.size, 3, none⟩ (.int .i64 s.nx)) g4 s) := Lib.hid (HG7.far (p := ⟨w3.heap.size, 3, none⟩) (by show g4 ≠ w3.heap.size; omega) _)
    have hL8 : Low w3 (w7.setCell ⟨w3.heap.size, 3, none⟩ (.int .i64 s.nx)) := hL5.setCell (p := ⟨w3.heap.size, 3, none⟩) (Nat.le_refl _) _
    have HK8 := Lib.hid (HK.out.low hL8)
    clear HG6' HG7 hL5 HG6 HK
    go_wp2_with (with_reducible refine wpList_load_sr rfl (.tmp 5) rfl g4 rfl s HR8.out ?_)
    refine (final_any s _ HK8.out).mono ?_
    rintro e w9 ⟨rfl, hl9⟩
    clear c0 f3 c3
    have hL9 := hL8.trans hl9
    replace HG8 := Lib.hid (HG8.out.below hl9 HG8.out.lt)
    clear HK8 HR8 hl9 hL8
    unfold addrV
    obtain ⟨d, hd⟩ : ∃ d, d = segR s.sg 0 := ⟨_, rfl⟩
    rw [← hd] at HOF HDN ⊢
    clear hd
    go_wp2_with (refine wpList_store_dst rfl (.tmp 22) (.tmp 20) rfl w3.heap.size rfl d rfl (setNx s.nx h) HG8.out HS.out HD.out HDN.out ?_; intro HG10; refine Hid.out ?_)
    refine Lib.hid ?_
    have hL10 := low_setMid (Nat.le_refl w3.heap.size) (cellsB d) 21 w9 w3 hL9
    rw [← HOF.out] at HG10
    replace HG10 := Lib.hid HG10
    obtain ⟨h3, hh3⟩ : ∃ h3, h3 = offH xs := ⟨_, rfl⟩
    rw [← hh3] at HG10 HO HCan HRL
    clear HG8 HOF hh3 hL9
    generalize w9.setCells w3.heap.size 21 (cellsB d) = w10 at *
    go_wp2_with fail
    refine wp_region_planN (fun y => BlkH y w3.heap.size h3) (.rd 0 (.rd 1 (.rd 2 (.rd 3 (.rd 4 (.act 5 (.act 6 (.rd 7 (.act 8 (.done))))))))))
      (by kernel_rfl) (by kernel_rfl) (by kernel_rfl) HG10.out ?_
    replace HE := Lib.hid (HE.out.below hL10 HE.out.lt)
    replace HE : Hid (BlkV w10.drew 27 w.heap.size [.int .i64 0]) := HE
    replace HG10 : Hid (BlkH w10.drew w3.heap.size h3) := HG10
    replace hL : Low w w10.drew := Below.drew (Low.trans hL hL10)
    have hsz10 : w3.heap.size ≤ w10.drew.heap.size := hL10.size
    clear hL10
    generalize w10.drew = w11 at *
    have hw40 : IntKind.i64.wrap (40 + (wd : Int)) = 40 + (wd : Int) := wraps_i64 _ (by omega) (by omega)
    iterate 5 (refine walkS_read (v := _) rfl (by rfl) (by intro y hy; first | exact exec_load_head rfl hy HO.out.s HO.out.d | exact slc_exec (HS2.out y) | (go_simp; try rfl)) ?_; simp only [Act.put, List.setIfInBounds_toArray, List.set_cons_zero, List.set_cons_succ])
    obtain ⟨N, hN⟩ : ∃ N, N = n - (40 + wd) := ⟨_, rfl⟩
    obtain ⟨cN, hcN⟩ : ∃ N, N = c - (40 + wd) := ⟨_, rfl⟩
    rw [← hN] at HB2 HRL ⊢
    rw [← hcN]
    have hNb : N ≤ 65535 := by omega
    clear HS2 hN hcN hw40
    refine walkS_act rfl (by rfl) (fun K hK => ?_)
    go_simp
    refine hK _ _ (HG10.out.alloc _) ?_
    clear hK K
    have hl := Low.alloc w11 (.cells #[.slice A2 N cN] 22)
    have hrow := heap_alloc_new w11 (.cells #[.slice A2 N cN] 22 (0, 0))
    replace HG10 := Lib.hid (HG10.out.alloc (.cells #[.slice A2 N cN] 22))
    replace HE := Lib.hid (HE.out.below hl HE.out.lt)
    replace hL := hL.trans hl
    have hb2 := HB2.out.below' hL hL.size
    replace hsz10 := Nat.le_trans hsz10 hl.size
    clear hl
    generalize w11.alloc (.cells #[.slice A2 N cN] 22) = w13 at *
    generalize w11.heap.size = g13 at *
    refine walkS_act rfl (by rfl) (fun K hK => ?_)
    go_simp
    have HBL := Lib.hid hb2.len
    refine (packet_any h3 (some ⟨g13, 0, none⟩) 1 1 [(A2, N, cN)] [xs.drop (40 + wd)] N w13 HO.out HCan.out rfl (by omega) (Row.one hrow hb2) (by simpa using HBL.out) hNb).mono ?_
    rintro e w14 ⟨A4, c4, rfl, ho4, hl4⟩
    go_simp
    have HG14 := Lib.hid (HG10.out.below hl4 HG10.out.lt)
    refine hK _ _ HG14.out ?_
    clear hK K HG10 hb2 hrow
    replace HE := Lib.hid (HE.out.below hl4 HE.out.lt)
    replace hL := hL.trans hl4
    have hcap := ho4.cap
    simp only [maxLen] at hcap
    have hbs := ho4.bs (Nat.le_refl _)
    rw [List.flatten_cons, List.flatten_nil, List.append_nil] at hbs
    have HBS := Lib.hid hbs
    clear ho4 hl4 hbs
    refine walkS_read (v := _) rfl (by rfl) (by intro y hy; go_simp; try rfl) ?_
    simp only [Act.put, List.setIfInBounds_toArray, List.set_cons_zero, List.set_cons_succ]
    refine walkS_act rfl (by rfl) (fun K hK => ?_)
    have cE := BlkE.c HE.out
    have fE := BlkE.f HE.out
    go_simp
    refine hK _ _ (HG14.out.far (p := ⟨w.heap.size, 0, none⟩) (by show w3.heap.size ≠ w.heap.size; omega) _) ?_
    clear hK K fE
    have HB15 := Lib.hid (HBS.out.setNum cE (.int .i64 0))
    have HE15 := Lib.hid (blkE HE.out 0)
    replace hL : Low w (w14.setCell ⟨w.heap.size, 0, none⟩ (.int .i64 0)) := hL.setCell (p := ⟨w.heap.size, 0, none⟩) (Nat.le_refl _) _
    have hz15 : (w14.setCell ⟨w.heap.size, 0, none⟩ (.int .i64 0)).heap.size = w14.heap.size := by simp
    rw [← hz15] at HB15
    clear HE HBS HG14 cE
    generalize w14.setCell ⟨w.heap.size, 0, none⟩ (.int .i64 0) = w15 at *
    refine walkS_done ?_
    go_wp2_with fail
    have hz16 : (w15.setCell ⟨w.heap.size, 0, none⟩ (.int .i64 0)).heap.size = w15.heap.size := by simp
    refine door_ret (by simp [go_sem]) (rcatch_idle ⟨w.heap.size, 0, none⟩ _ w15 (BlkE.c HE15.out) (BlkE.f HE15.out)) _ (results_tmp_cell Try.results9 _ _ w.heap.size _ 0 rfl rfl (BlkE.c (blkE HE15.out 0))) ?_
    refine GivesR.of HRL.out HQ.out ?_ hcap.1 (by omega) (by rw [hz16]; exact HB15.out.setNum (BlkE.c HE15.out) _) (hL.setCell (p := ⟨w.heap.size, 0, none⟩) (Nat.le_refl _) _)
    rw [len_back (sizedH_ok HO.out (by unfold i64ok; omega)), HBL.out]
  · have h3 := h1 he
    subst h3
    clear h1 h2
    obtain ⟨er, her⟩ : ∃ er, er = hdrE xs := ⟨_, rfl⟩
    rw [← her] at he ⊢
    have HQ := Lib.hid her
    have HR2 := Lib.hid (show remL xs = [] by rw [HRL.out, if_neg (by rw [← HQ.out]; exact he)])
    clear her HRL
    unfold Thrown
    go_wp2_with fail
    rw [HR2.out]
    refine door_panic er (by simp [go_sem]) (rcatch_panic ⟨w.heap.size, 0, none⟩ _ er [] w3 (BlkE.c HE.out) (BlkE.f HE.out)) _ (results_tmp_cell Try.results9 _ _ w.heap.size _ er rfl rfl (BlkE.c (blkE HE.out er))) ?_
    exact ⟨none, 0, by rw [← HQ.out]; rfl, Nat.le_refl _, by omega, Bs.nil _ _ _, hL.setCell (p := ⟨w.heap.size, 0, none⟩) (Nat.le_refl _) _⟩
end
end Go.Proofs.Ytpaomhgdpncdoaa
