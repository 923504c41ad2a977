/- What the document's own Put answers: the bytes of parts. Condition: at most 2^47 parts. -/
import Derived.Test.YtnfiijbnfmcpjaaTlD
namespace Go.Proofs.Ytnfiijbnfmcpjaa
open Go.RowKit
set_option linter.unusedVariables false

theorem fill_next {s k : Nat} (hk : k ≤ fillT s) (h : (s + k) % 8 ≠ 0) : k + 1 ≤ fillT s := by unfold fillT at hk ⊢; omega
theorem fill_here {s k : Nat} (hk : k ≤ fillT s) (h : (s + k) % 8 = 0) : k = fillT s := by unfold fillT at hk ⊢; omega
theorem padT_nat {k : Nat} (h : k < 8) : padT ((k : Nat) : Int) = nilT k := by unfold padT; congr 1; omega

set_option maxRecDepth 100000 in
set_option maxHeartbeats 3200000 in
theorem rtlput_any (A : Option Addr) (n c : Nat) (os : List Od) (w : World) (hn : n ≤ 140737488355328) (ho : Os w w.heap.size A n os) :
    Calls Try.prog 21 #[.slice A n c] w (GivesBE w (putT (os.map Od.v)) (canT (os.map Od.v))) := by
  obtain ⟨i0, hi, hz0, hz1, hz2⟩ := info_parts info5
  go_enter Try.func21, Try.ntmps21
  go_wp2_with fail
  refine (rtlcan_any A n c os w hn ho).mono ?_
  rintro e wc ⟨rfl, rfl⟩
  have hcr := canT_err (os.map Od.v)
  by_cases hcan : canT (os.map Od.v) = 0
  · obtain ⟨hchk, hsum⟩ := canT_zero hcan
    have HCAN := Lib.hid hcan
    have hTl : (flatT (os.map Od.v)).length ≤ 256 := by rw [flatT_len]; exact hsum
    have HPUT := Lib.hid (show putT (os.map Od.v) = flatT (os.map Od.v) ++ nilT (fillT (flatT (os.map Od.v)).length) by unfold putT; rw [if_pos hcan])
    have hmem := chkT_mem hchk
    have hlen := ho.len
    rw [hcan]
    clear hcr hcan hchk hsum
    go_wp2_with fail
    go_loopw [5, 6] (fun b i wr => ∃ m s A' c', m ≤ n ∧ i = .int .i64 (m : Nat) ∧ b = .slice A' s c' ∧ s ≤ 256 ∧ Hid (s = (flatT ((os.map Od.v).take m)).length) ∧ OwnB 5 wr wc.heap.size A' s c' (flatT ((os.map Od.v).take m)) ∧ Below wc.heap.size wc wr) (fun _ i _ => n - (intOf i).toNat)
    case atStart => exact ⟨0, 0, none, 0, Nat.zero_le _, rfl, rfl, by omega, Lib.hid rfl, OwnB.none_ _ _ _, Below.refl _ _⟩
    case round =>
      obtain ⟨m, s, A', c', hm, rfl, rfl, hs, HS, h2, hB⟩ := hrel
      by_cases hmn : m < n
      · obtain ⟨b, p, rfl, hbl, hc⟩ := ho.mem (by omega)
        obtain ⟨q1, q2⟩ := hc m hmn
        have hok := ho.at_ hmn
        have hm1 := hmem _ (List.mem_map.2 ⟨_, getD_mem (by omega), rfl⟩ : (os.getD m zeroO).v ∈ os.map Od.v)
        have hft := flatT_take (l := os.map Od.v) (i := m) (by simp; omega)
        have hfl := flatT_take_le (os.map Od.v) (m + 1)
        rw [getV] at hft
        obtain ⟨o, hoo⟩ : ∃ o, o = os.getD m zeroO := ⟨_, rfl⟩
        rw [← hoo] at q1 q2 hok hm1 hft
        clear hc hoo
        obtain ⟨kk, DA, dn, dc, d⟩ := o
        obtain ⟨hk, hdn, hbs⟩ := hok
        dsimp only [Od.v] at q1 q2 hk hdn hbs hm1 hft
        obtain ⟨-, hd255⟩ := hm1
        rw [hbs.len] at hd255
        have HBS := Lib.hid hbs
        rw [partT_v kk d dn hbs.len hd255] at hft
        have HFT := Lib.hid hft
        rw [hft] at hfl
        simp only [List.length_append, List.length_cons, List.length_nil] at hfl
        rw [hbs.len, ← HS.out] at hfl
        have hs1 : s + 2 + dn ≤ 256 := by omega
        have HO := Lib.hid ho
        have hsz := hB.size
        have hlt2 := h2.lt
        have HS1 := Lib.hid hs1
        have hw1 : IntKind.u8.wrap kk = kk % 256 := by rw [IntKind.wrap_u8]
        have hw2 : IntKind.u8.wrap (dn : Int) = dn := by rw [IntKind.wrap_u8]; omega
        clear hft hbs hfl hmem ho hs1
        go_wp2_with fail
        refine wp_region_planS (fun y => Below wc.heap.size wc y) (.rd 0 (.rd 1 (.rd 2 (.rd 3 (.rd 4 (.rd 5 (.rd 6 (.rd 7 (.rd 8 (.rd 9 (.rd 10 (.rd 11 (.rd 12 (.rd 13 (.act 14 (.act 15 (.rd 16 (.done)))))))))))))))))) (by kernel_rfl) (by kernel_rfl) (fun _ _ d _ _ h => by cases d <;> exact h) (by kernel_rfl) (Below.drew hB) ?_
        replace hB := Below.drew hB
        replace h2 : OwnB 5 wr.drew wc.heap.size A' s c' (flatT ((os.map Od.v).take m)) := h2
        replace hsz : wc.heap.size ≤ wr.drew.heap.size := hsz
        replace hlt2 : ∀ k, (Value.slice A' s c').ownBlock = some k → wc.heap.size ≤ k ∧ k < wr.drew.heap.size := hlt2
        generalize wr.drew = u at *
        iterate 14 (refine walkS_read (v := _) rfl (by rfl) (by
          intro y hy
          have e1 := (hy.cell (p := ⟨b, p + m * 2, none⟩) hbl).trans q1
          have e2 := (hy.cell (p := ⟨b, p + m * 2 + 1, none⟩) hbl).trans q2
          go_simp; try rfl) ?_; simp only [Act.put, List.setIfInBounds_toArray, List.set_cons_zero, List.set_cons_succ])
        refine walkS_act rfl (by rfl) (fun K hK => ?_)
        go_simp
        have hl1 := Low.alloc u (.cells #[.int .u8 (kk % 256), .int .u8 (dn : Int)] 5)
        have hB1 := hB.trans (hl1.mono hsz)
        refine hK _ _ hB1 ?_
        clear hK K
        have hsrc := two_src u (kk % 256) (dn : Int) (by omega) (by omega)
        have hown0 := h2.below hl1
        have hs9 : (u.alloc (.cells #[.int .u8 (kk % 256), .int .u8 (dn : Int)] 5)).heap.size = u.heap.size + 1 := by simp
        generalize u.alloc (.cells #[.int .u8 (kk % 256), .int .u8 (dn : Int)] 5) = u1 at *
        clear hl1 h2
        refine walkS_act rfl (by rfl) (fun K hK => ?_)
        refine wp_append_bs (.tmp 19) (.tmp 33) 28 rfl wc.heap.size 5 i0 Try.underlying28 hi hz0 hz1 hz2 A' s c' _ rfl hown0 _ 2 2 (u.heap.size + 1) [kk % 256, (dn : Int)] rfl hsrc (by omega) hB1.size ?_
        intro A2 c3 w1 hown hgr hob
        have hb1 : Below wc.heap.size wc w1 := hB1.grown hgr hB1.size fun x e => (hlt2 x e).1
        refine hK _ _ hb1 ?_
        clear hK K
        simp only [Act.put, List.setIfInBounds_toArray, List.set_cons_zero, List.set_cons_succ]
        iterate 1 (refine walkS_read (v := _) rfl (by rfl) (by intro y hy; go_simp; try rfl) ?_; simp only [Act.put, List.setIfInBounds_toArray, List.set_cons_zero, List.set_cons_succ])
        unfold walkS
        have g2 := (hb1.cell (p := ⟨b, p + m * 2 + 1, none⟩) hbl).trans q2
        have hdat := HBS.out.below hb1
        have hlt3 := hown.lt
        have hsz1 := hb1.size
        clear hgr hob hown0 hsrc q1 q2 hB hB1 hlt2
        go_wp2_with (at_builtin; refine wpList_append_bs rfl _ _ 28 rfl wc.heap.size 5 i0 Try.underlying28 hi hz0 hz1 hz2 A2 (s + 2) c3 (flatT ((os.map Od.v).take m) ++ [kk % 256, (dn : Int)]) rfl hown DA dn dc wc.heap.size d rfl hdat (by have := HS1.out; omega) hsz1 ?_; intro A4 c4 w2 hown4 hgr hob; refine Hid.out ?_)
        refine Lib.hid ?_
        have hb2 := hb1.grown hgr hsz1 fun x e => (hlt3 x e).1
        have HOW := Lib.hid hown4
        clear hgr hob hown hdat g2 hown4
        go_wp2_with fail
        go_roundw
        case rel =>
          refine ⟨m + 1, s + 2 + dn, A4, c4, by omega, by go_num, rfl, HS1.out, Lib.hid ?_, ?_, hb2⟩
          · rw [HFT.out, List.length_append, ← HS.out, List.length_append, HBS.out.len]
            simp only [List.length_cons, List.length_nil]
            omega
          · rw [HFT.out, ← List.append_assoc]
            exact HOW.out
        case measure => simp [intOf]; omega
      · obtain rfl : m = n := by omega
        have hall : (os.map Od.v).take m = os.map Od.v := List.take_of_length_le (by simp [hlen])
        rw [hall] at h2 HS
        generalize flatT (os.map Od.v) = ys at *
        have hys := h2.len
        have HYS := Lib.hid hys
        have hBsz := hB.size
        have HLT2 := Lib.hid h2.lt
        have HO2 := Lib.hid h2
        clear h2 hys hall ho hmem
        go_wp2_with fail
        go_loopw [7] (fun v wq => ∃ k : Nat, k ≤ fillT s ∧ v = .int .i64 k ∧ wq = wr) (fun v _ => fillT s - (intOf v).toNat)
        case atStart => exact ⟨0, Nat.zero_le _, rfl, rfl⟩
        case round =>
          obtain ⟨k, hk, rfl, rfl⟩ := hrel
          have hf8 := fillT_lt s
          by_cases hm8 : (s + k) % 8 = 0
          · have hkf := fill_here hk hm8
            have hm9 : ((s : Int) + k) % 8 = 0 := by omega
            have HF := Lib.hid (padT_nat (k := k) (by omega))
            have HPU := Lib.hid (show putT (os.map Od.v) = ys ++ nilT k by rw [HPUT.out, HYS.out, ← hkf])
            have hk8 : k < 8 := by omega
            clear hkf hm8 hk hf8
            go_wp2_with fail
            refine (rtlpad_any _ _ (by unfold i64ok; omega)).mono ?_
            rintro e w1 ⟨A1, c1, rfl, hown1, hB1⟩
            rw [HF.out] at hown1 ⊢
            have hown0 := HO2.out.below hB1
            have hsrc := hown1.bs (Nat.le_refl _)
            have hfl := nilT_len k
            have HB1 := Lib.hid (hB.trans (hB1.mono hBsz))
            generalize nilT k = zs at *
            obtain ⟨z, hz⟩ : ∃ z, z = zs.length := ⟨_, rfl⟩
            have hz8 : z < 8 := by omega
            rw [← hz] at hsrc ⊢
            have HZ := Lib.hid hz
            clear hown1 hB1 hB hz hfl
            go_wp2_with (at_builtin; refine wpList_append_bs rfl _ _ 28 rfl wc.heap.size 5 i0 Try.underlying28 hi hz0 hz1 hz2 A' s c' ys rfl hown0 A1 z c1 w1.heap.size zs rfl hsrc (by omega) HB1.out.size ?_; intro A3 c3 w3 hown3 hgr hob; refine Hid.out ?_)
            refine Lib.hid ?_
            have hb3 := HB1.out.grown hgr HB1.out.size fun x e => (HLT2.out x e).1
            have hcap := hown3.cap
            have HOW := Lib.hid hown3
            clear hgr hob hown3 hown0 hsrc
            go_wp2_with fail
            go_ret2
            refine ⟨A3, c3, ?_, ?_, ?_, hb3⟩
            · rw [HPU.out, HCAN.out, List.length_append, HYS.out, ← HZ.out]; rfl
            · rw [HPU.out, List.length_append, HYS.out, ← HZ.out]
              exact HOW.out.bs (Nat.le_refl _)
            · rw [HPU.out, List.length_append, HYS.out, ← HZ.out]
              exact ⟨hcap.1, by have := hcap.2; simp only [maxLen] at this; omega⟩
          · have hkn := fill_next hk hm8
            have hm9 : ((((s : Int) + k) % 8) != 0) = true := by simp; omega
            clear hm8
            go_wp2_with fail
            exact ⟨⟨k + 1, hkn, rfl, trivial⟩, by simp [intOf]; omega⟩
  · have HP := Lib.hid (putT_none hcan)
    generalize canT (os.map Od.v) = x at *
    have hx : (x != 0) = true := by simpa using hcan
    go_wp2_with fail
    go_ret2
    rw [HP.out]
    exact ⟨none, 0, rfl, Bs.nil _ _ _, ⟨Nat.le_refl _, by omega⟩, Below.refl _ _⟩
end Go.Proofs.Ytnfiijbnfmcpjaa
