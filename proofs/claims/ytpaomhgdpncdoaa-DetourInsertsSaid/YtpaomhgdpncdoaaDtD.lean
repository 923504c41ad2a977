/- detour.routed: the fixed header, the routing header behind it, and how long that is; or the error with which it gives up. detour.Header. Condition: at most 2^47 - 4096 bytes. -/
import Derived.Test.YtpaomhgdpncdoaaDtC
namespace Go.Proofs.Ytpaomhgdpncdoaa
open Go.RowKit
set_option linter.unusedVariables false

/-- the error of Header -/
def hdrE (xs : List Int) : Int := if wholeE xs = 0 then (if (getL xs).nx = 43 then errR (xs.drop 40) else 7) else wholeE xs
def hdrR (xs : List Int) : Rb := if hdrE xs = 0 then saysR (xs.drop 40) else zeroRb
def hdrN (xs : List Int) : Nat := if hdrE xs = 0 then wideR (xs.drop 40) else 0
theorem hdrE_zero {xs : List Int} (h : hdrE xs = 0) : wholeE xs = 0 ∧ (getL xs).nx = 43 ∧ errR (xs.drop 40) = 0 := by
  unfold hdrE at h
  by_cases h1 : wholeE xs = 0
  · rw [if_pos h1] at h
    by_cases h2 : (getL xs).nx = 43
    · rw [if_pos h2] at h; exact ⟨h1, h2, h⟩
    · rw [if_neg h2] at h; omega
  · rw [if_neg h1] at h; exact absurd h h1
theorem ret_routed {fn : Func} {p q r : Tmp} {R : Ending → World → Prop} {tmps : Array Value} {df : List Deferred} {w : World} {g g2 : Nat} {h : Hd} {s : Sr} {l : Int} (hfn : fn.results = #[.cell p 41, .cell q 26, .tmp r]) (hp : tmps.getD p undef = .pointer (some ⟨g, 0, none⟩)) (hq : tmps.getD q undef = .pointer (some ⟨g2, 0, none⟩)) (hr : tmps.getD r undef = .int .i64 l)
    (hb : BlkH w g h) (hs : h.s.length = 16) (hd : h.d.length = 16) (hb2 : BlkR w g2 s) (hR : R (.returned (.tuple #[headV h, srV s, .int .i64 l])) w) (hdf : df = []) : bodyPost Try.prog fn R .ret ⟨tmps, df⟩ w := by
  subst hdf
  have hp' : tmps[p]?.getD undef = .pointer (some ⟨g, 0, none⟩) := by simpa using hp
  have hq' : tmps[q]?.getD undef = .pointer (some ⟨g2, 0, none⟩) := by simpa using hq
  have hr' : tmps[r]?.getD undef = .int .i64 l := by simpa using hr
  refine bodyPost_ret (v := .tuple #[headV h, srV s, .int .i64 l]) ?_ rfl hR
  simp [results, hfn, hp', hq', hr', asAddr, run_loadVar_row w g 41 41 (headC h).toArray _ _ hb Try.underlying41 rfl (by rw [head_size]; simp [headC_length hs hd]), run_loadVar_row w g2 26 26 (srC s).toArray _ _ hb2 Try.underlying26 rfl (by rw [sr_size]; rfl), srV, headV]

/-- stores into whole rows, with what stays -/
theorem wp_store_head {o : Oper} {a : Act} {w : World} {K : Act → World → Prop} {Q : Exit → Act → World → Prop} (x y : Operand) (ho : o.op = .store 41 x y) (g : Nat) (hx : a.eval x = .pointer (some ⟨g, 0, none⟩)) (h : Hd) (hy : a.eval y = .agg (headC h).toArray) (old : Hd) (hb : BlkH w g old)
    (hos : old.s.length = 16) (hod : old.d.length = 16) (hs : h.s.length = 16) (hd : h.d.length = 16)
    (hk : ∀ w', BlkH w' g h → Below g w w' → w'.heap.size = w.heap.size → (∀ k : Nat, k ≠ g → w'.heap[k]? = w.heap[k]?) → K (a.put o.dst undef) w') : o.wp Try.prog a w K Q :=
  wp_store_row 41 x y ho g _ hx hy _ _ hb (by rw [head_size]; simp [headC_length hs hd]) (by simp [headC_length hs hd, headC_length hos hod])
    (by rw [Array.all_eq_true_iff_forall_mem]; intro v hv; exact headC_one h v (by simpa using hv)) (hk _ (BlkV.setRow hb _) (low_setRow _ _ _ (Nat.le_refl _)) (by simp) (fun k hk => by simp [World.setRow, Array.getElem?_modify, Ne.symm hk]))
theorem wp_store_sr {o : Oper} {a : Act} {w : World} {K : Act → World → Prop} {Q : Exit → Act → World → Prop} (x y : Operand) (ho : o.op = .store 26 x y) (g : Nat) (hx : a.eval x = .pointer (some ⟨g, 0, none⟩)) (s : Sr) (hy : a.eval y = .agg (srC s).toArray) (old : Sr) (hb : BlkR w g old)
    (hk : ∀ w', BlkR w' g s → Below g w w' → w'.heap.size = w.heap.size → (∀ k : Nat, k ≠ g → w'.heap[k]? = w.heap[k]?) → K (a.put o.dst undef) w') : o.wp Try.prog a w K Q :=
  wp_store_row 26 x y ho g _ hx hy _ _ hb (by rw [sr_size]; rfl) rfl (srC_one s) (hk _ (BlkV.setRow hb _) (low_setRow _ _ _ (Nat.le_refl _)) (by simp) (fun k hk => by simp [World.setRow, Array.getElem?_modify, Ne.symm hk]))
/-- a header stays where only other blocks change -/
theorem Sr.ok.others {w w' : World} {B lo : Nat} {s : Sr} (h : s.ok w B) (hf : s.from_ lo) (hk : ∀ k : Nat, lo ≤ k → w'.heap[k]? = w.heap[k]?) : s.ok w' B := h.upper hf fun p hp _ => World.cell?_of_block (hk _ hp)

section
variable (A : Option Addr) (n c : Nat) (xs : List Int) (w : World) (hn : n ≤ 140737488355328) (hc : n ≤ c) (hc2 : c ≤ 9223372036854775807) (hb : Bs w w.heap.size A n xs)
include hn hc hc2 hb
set_option maxHeartbeats 1600000 in
set_option maxRecDepth 100000 in
theorem routed_whole (er : Int) (her : wholeE xs = er) (he : er ≠ 0) : Calls Try.prog 21 #[.slice A n c] w fun e w' => e = Thrown er ∧ Low w w' := by
  go_enter Try.func21, Try.ntmps21
  go_wp2_with (first | ((with_reducible refine wpList_alloc_v rfl 41 rfl (headC zeroH) (by kernel_rfl) ?_); intro w1 HZ hL1 hz1; clear hz1 HZ) | ((with_reducible refine wpList_alloc_sr rfl rfl ?_); intro w2 HZ2 hL2 hz2; refine Hid.out ?_))
  refine Lib.hid ?_
  have hL : Low w w2 := Low.trans hL1 hL2
  clear HZ2 hz2
  go_wp2_with fail
  refine (whole_no A n c xs w2 (hb.below' hL hL.size) er her he hn hc hc2).mono ?_
  rintro e w3 ⟨rfl, hl3⟩
  unfold Thrown
  replace hL := hL.trans hl3
  go_wp2_with fail
  exact ⟨rfl, rfl, hL⟩
set_option maxHeartbeats 1600000 in
set_option maxRecDepth 100000 in
theorem routed_kind (h : Hd) (hh : getL xs = h) (her : wholeE xs = 0) (he : h.nx ≠ 43) : Calls Try.prog 21 #[.slice A n c] w fun e w' => e = Thrown 7 ∧ Low w w' := by
  have HO := Lib.hid (getL_ok hb.all (wholeE_zero her).2.1)
  rw [hh] at HO
  have HS := Lib.hid HO.out.s
  have HD := Lib.hid HO.out.d
  go_enter Try.func21, Try.ntmps21
  go_wp2_with (first | ((with_reducible refine wpList_alloc_v rfl 41 rfl (headC zeroH) (by kernel_rfl) ?_); intro w1 HZ hL1 hz1; clear hz1 HZ) | ((with_reducible refine wpList_alloc_sr rfl rfl ?_); intro w2 HZ2 hL2 hz2; refine Hid.out ?_))
  refine Lib.hid ?_
  have hL : Low w w2 := Low.trans hL1 hL2
  clear HZ2 hz2 hL1 hL2
  go_wp2_with fail
  refine (dwhole_any A n c xs w2 hn hc hc2 (hb.below' hL hL.size) her).mono ?_
  rintro e w3 ⟨rfl, hl3⟩
  rw [hh]
  unfold headV
  replace hL := hL.trans hl3
  clear hl3 hb her hh
  go_wp2_with ((with_reducible refine wpList_alloc_v rfl 41 rfl (headC zeroH) (by kernel_rfl) ?_); intro w4 HZ hl4 hz4; refine Hid.out ?_)
  refine Lib.hid ?_
  replace HZ := Lib.hid HZ
  have HLa : Hid (Low w w3) := Lib.hid hL
  clear hz4
  go_wp2_with ((with_reducible refine wpList_store_head rfl (.tmp 5) (.tmp 10) rfl w3.heap.size rfl h rfl zeroH HZ.out rfl rfl HS.out HD.out ?_); intro w8 HG8 hb8 hz8; refine Hid.out ?_)
  refine Lib.hid ?_
  have hl8 : Low w3 w8 := Below.trans hl4 hb8
  replace hL : Low w w8 := HLa.out.trans hl8
  have c3 := HG8.cell 3
  replace c3 : _ = some (Value.int .i64 h.nx) := c3
  have hd : (h.nx == 43) = false := by simpa using he
  clear HG8 hb8 hz8 hl8 hl4 HZ
  go_wp2_with fail
  refine (demand_no 7 w8).mono ?_
  rintro e w9 ⟨rfl, rfl⟩
  unfold Thrown
  go_wp2_with fail
  exact ⟨rfl, rfl, hL⟩
set_option maxHeartbeats 3200000 in
set_option maxRecDepth 100000 in
theorem routed_parse (h : Hd) (hh : getL xs = h) (her : wholeE xs = 0) (hnx : h.nx = 43) : Calls Try.prog 21 #[.slice A n c] w fun e w' =>
    (errR (xs.drop 40) ≠ 0 → e = Thrown (errR (xs.drop 40))) ∧ (errR (xs.drop 40) = 0 → ∃ s : Sr, e = .returned (.tuple #[headV h, srV s, .int .i64 (wideR (xs.drop 40))]) ∧ s.v = saysR (xs.drop 40) ∧ s.ok w' w'.heap.size ∧ s.from_ w.heap.size) ∧ Low w w' := by
  have HO := Lib.hid (getL_ok hb.all (wholeE_zero her).2.1)
  have h40 : 40 ≤ n := by have := (wholeE_zero her).2.1; rw [hb.len] at this; exact this
  rw [hh] at HO
  have HS := Lib.hid HO.out.s
  have HD := Lib.hid HO.out.d
  have HBB := Lib.hid hb
  obtain ⟨b, o, rfl, hbl, hcc⟩ := hb.mem (by omega)
  obtain ⟨A2, hs2, hA2⟩ := slc_from b o n c 40 40 hc rfl h40
  have HB2 := Lib.hid (hb.cutFrom h40 hA2)
  have HS2 := Lib.hid hs2
  clear hs2 hA2 hcc hbl hb
  go_enter Try.func21, Try.ntmps21
  go_wp2_with ((with_reducible refine wpList_alloc_v rfl 41 rfl (headC zeroH) (by kernel_rfl) ?_); intro w1 HZ hL1 hz1; refine Hid.out ?_)
  refine Lib.hid ?_
  have hg0 : w.heap.size < w1.heap.size := HZ.lt
  clear hz1
  replace HZ := Lib.hid HZ
  go_wp2_with ((with_reducible refine wpList_alloc_sr rfl rfl ?_); intro w2 HZ2 hL2 hz2; refine Hid.out ?_)
  refine Lib.hid ?_
  have hL : Low w w2 := Low.trans hL1 hL2
  replace HZ := Lib.hid (HZ.out.below hL2 HZ.out.lt)
  have hg1 : w1.heap.size < w2.heap.size := HZ2.lt
  replace HZ2 := Lib.hid HZ2
  clear hz2 hL1 hL2
  generalize w1.heap.size = g1 at *
  go_wp2_with fail
  refine (dwhole_any (some ⟨b, o, none⟩) n c xs w2 hn hc hc2 (HBB.out.below' hL hL.size) her).mono ?_
  rintro e w3 ⟨rfl, hl3⟩
  rw [hh]
  unfold headV
  replace hL := hL.trans hl3
  have hg2 : g1 < w3.heap.size := Nat.lt_of_lt_of_le hg1 hl3.size
  replace HZ := Lib.hid (HZ.out.below hl3 HZ.out.lt)
  replace HZ2 := Lib.hid (HZ2.out.below hl3 HZ2.out.lt)
  clear hl3 her hh hg1 HBB
  go_wp2_with ((with_reducible refine wpList_alloc_v rfl 41 rfl (headC zeroH) (by kernel_rfl) ?_); intro w4 HZ4 hl4 hz4; refine Hid.out ?_)
  refine Lib.hid ?_
  replace HZ4 := Lib.hid HZ4
  have HLa : Hid (Low w w3) := Lib.hid hL
  clear hz4
  go_wp2_with ((with_reducible refine wpList_store_head rfl (.tmp 5) (.tmp 10) rfl w3.heap.size rfl h rfl zeroH HZ4.out rfl rfl HS.out HD.out ?_); intro w8 HG8 hb8 hz8; refine Hid.out ?_)
  refine Lib.hid ?_
  have hl8 : Low w3 w8 := Below.trans hl4 hb8
  replace hL : Low w w8 := HLa.out.trans hl8
  replace HZ := Lib.hid (HZ.out.below hl8 HZ.out.lt)
  replace HZ2 := Lib.hid (HZ2.out.below hl8 HZ2.out.lt)
  have hg3 : w3.heap.size < w8.heap.size := HG8.lt
  have c3 := HG8.cell 3
  replace c3 : _ = some (Value.int .i64 h.nx) := c3
  have hd : (h.nx == 43) = true := by simpa using hnx
  replace HG8 := Lib.hid HG8
  clear hb8 hz8 hl8 hl4 HZ4 hnx HLa
  generalize w3.heap.size = g3 at *
  go_wp2_with fail
  refine (demand_yes 7 w8).mono ?_
  rintro e w8 ⟨rfl, rfl⟩
  clear c3 hd
  go_wp2_with (refine slc_wp rfl _ (.tmp 16) (some (.const (.int .i64 40))) none none rfl _ (HS2.out w8) ?_; refine Hid.out ?_)
  refine Lib.hid ?_
  go_wp2_with fail
  refine (srparse_any A2 (n - 40) (c - 40) (xs.drop 40) w8 (by omega) (by omega) (by omega) (HB2.out.below' hL hL.size)).mono ?_
  rintro e w9 ⟨s, rfl, hv9, hk9, hB9, hf9⟩
  have hL8 : Low w w8 := hL
  replace hL := hL.trans hB9
  replace HZ := Lib.hid (HZ.out.below hB9 HZ.out.lt)
  replace HZ2 := Lib.hid (HZ2.out.below hB9 HZ2.out.lt)
  replace HG8 := Lib.hid (HG8.out.below hB9 HG8.out.lt)
  have HV := Lib.hid hv9
  have HK := Lib.hid hk9
  have HF := Lib.hid hf9
  have hge := hB9.size
  obtain ⟨er, her⟩ : ∃ er, er = errR (xs.drop 40) := ⟨_, rfl⟩
  obtain ⟨ln, hln⟩ : ∃ ln, ln = lenR (xs.drop 40) := ⟨_, rfl⟩
  rw [← her]
  rw [← hln]
  have HER := Lib.hid her
  have HLN := Lib.hid hln
  clear hv9 hk9 hf9 hB9 HB2 HS2 her hln
  unfold srV
  go_wp2_with ((with_reducible refine wpList_alloc_sr rfl rfl ?_); intro w10 HZ10 hl10 hz10; refine Hid.out ?_)
  refine Lib.hid ?_
  replace HZ10 := Lib.hid HZ10
  clear hz10
  go_wp2_with ((refine wpList_store_sr rfl (.tmp 6) (.tmp 19) rfl w9.heap.size rfl s rfl zeroSr HZ10.out ?_); intro w11 HG11 hb11 ho11 hz11; refine Hid.out ?_)
  refine Lib.hid ?_
  have hl11 : Low w9 w11 := Below.trans hl10 hb11
  replace HZ := Lib.hid (HZ.out.below hl11 HZ.out.lt)
  replace HZ2 := Lib.hid (HZ2.out.below hl11 HZ2.out.lt)
  replace HG8 := Lib.hid (HG8.out.below hl11 HG8.out.lt)
  replace HK := Lib.hid (HK.out.low hl11)
  replace hL := hL.trans hl11
  have hg9 : g3 < w9.heap.size := Nat.lt_of_lt_of_le hg3 hge
  replace HG11 := Lib.hid HG11
  clear hl11 hl10 hb11 ho11 hz11 HZ10 hge
  have hge8 := hL8.size
  generalize w9.heap.size = g9 at *
  by_cases he : er = 0
  · subst he
    go_wp2_with fail
    refine (demand_yes 0 w11).mono ?_
    rintro e w11 ⟨rfl, rfl⟩
    go_wp2_with fail
    refine wp_region_planS (fun y => BlkH y g3 h ∧ BlkR y g9 s) (.rd 0 (.rd 1 (.rd 2 (.act 3 (.act 4 (.rd 5 (.done)))))))
      (by kernel_rfl) (by kernel_rfl) (fun _ _ d _ _ h => by cases d <;> exact h) (by kernel_rfl) ⟨HG8.out, HG11.out⟩ ?_
    replace HZ : Hid (BlkH w11.drew w.heap.size zeroH) := HZ
    replace HZ2 : Hid (BlkR w11.drew g1 zeroSr) := HZ2
    replace HG8 : Hid (BlkH w11.drew g3 h) := HG8
    replace HG11 : Hid (BlkR w11.drew g9 s) := HG11
    replace HK : Hid (s.ok w11.drew w11.drew.heap.size) := Lib.hid (HK.out.keep fun _ _ => rfl)
    replace hL := Below.drew hL
    generalize w11.drew = w12 at *
    iterate 3 (refine walkS_read (v := _) rfl (by rfl) (by intro y hy; first | exact exec_load_head rfl hy.1 HS.out HD.out | exact exec_load_sr rfl hy.2 | (go_simp; try rfl)) ?_; simp only [Act.put, List.setIfInBounds_toArray, List.set_cons_zero, List.set_cons_succ])
    refine walkS_act rfl (by rfl) (fun K hK => ?_)
    refine wp_store_head (.tmp 2) (.tmp 26) rfl w.heap.size rfl h rfl zeroH HZ.out rfl rfl HS.out HD.out (fun w13 HG13 hb13 hz13 ho13 => ?_)
    have HA : BlkH w13 g3 h := (ho13 _ (by omega)).trans HG8.out
    have HB : BlkR w13 g9 s := (ho13 _ (by omega)).trans HG11.out
    have HC : BlkR w13 g1 zeroSr := (ho13 _ (by omega)).trans HZ2.out
    have hK13 : s.ok w13 w13.heap.size := by rw [hz13]; exact HK.out.others HF.out (fun k hk => ho13 k (by omega))
    have hL13 := hL.trans hb13
    refine hK _ _ ⟨HA, HB⟩ ?_
    clear hK K
    refine walkS_act rfl (by rfl) (fun K hK => ?_)
    refine wp_store_sr (.tmp 3) (.tmp 27) rfl g1 rfl s rfl zeroSr HC (fun w14 HG14 hb14 hz14 ho14 => ?_)
    have HA2 : BlkH w14 g3 h := (ho14 _ (by omega)).trans HA
    have HB2 : BlkR w14 g9 s := (ho14 _ (by omega)).trans HB
    have HC2 : BlkH w14 w.heap.size h := (ho14 _ (by omega)).trans HG13
    have hK14 : s.ok w14 w14.heap.size := by rw [hz14]; exact hK13.others HF.out (fun k hk => ho14 k (by omega))
    have hL14 := hL13.trans (hb14.mono (by omega))
    refine hK _ _ ⟨HA2, HB2⟩ ?_
    clear hK K
    simp only [Act.put]
    refine walkS_read (v := _) rfl (by rfl) (by intro y hy; go_simp; try rfl) ?_
    unfold walkS
    simp only [Act.put, List.setIfInBounds_toArray, List.set_cons_zero, List.set_cons_succ]
    have h0 : errR (xs.drop 40) = 0 := HER.out.symm
    have HLN2 := HLN.out
    have HV2 := HV.out
    unfold lenR at HLN2
    unfold parseR at HV2
    rw [if_pos h0] at HLN2 HV2
    go_wp2
    refine ret_routed Try.results21 rfl rfl rfl HC2 HS.out HD.out HG14 ⟨fun h => absurd h0 h, fun _ => ⟨s, by rw [HLN2], HV2, hK14, ⟨HF.out.sg.less hge8, HF.out.tl.lessR hge8⟩⟩, hL14⟩ rfl
  · have hd : (er == 0) = false := by simpa using he
    go_wp2_with fail
    refine (demand_no er w11).mono ?_
    rintro e w12 ⟨rfl, rfl⟩
    unfold Thrown
    go_wp2_with fail
    exact ⟨rfl, fun _ => by rw [← HER.out]; rfl, fun h => absurd (HER.out.trans h) he, hL⟩
end
end Go.Proofs.Ytpaomhgdpncdoaa
