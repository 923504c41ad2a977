/- What tlv.Put, and the document's own, answer: the bytes of parts. Condition: at most 2^47 parts. -/
import Derived.Test.YtnfiijbnfmcpjaaTlC
import Derived.Test.YtnfiijbnfmcpjaaTpG
import Derived.Test.YtnfiijbnfmcpjaaReg3
import Derived.WalkMore
namespace Go.Proofs.Ytnfiijbnfmcpjaa
open Go.RowKit
set_option linter.unusedVariables false

theorem partT_v (kk : Int) (d : List Int) (dn : Nat) (h : d.length = dn) (h2 : dn ≤ 255) : partT (kk, d) = [kk % 256, (dn : Int)] ++ d := by
  unfold partT
  rw [show (d.length : Int) % 256 = dn by omega]
theorem two_src (w : World) (x y : Int) (hx : 0 ≤ x ∧ x < 256) (hy : 0 ≤ y ∧ y < 256) : Bs (w.alloc (.cells #[.int .u8 x, .int .u8 y] 5)) (w.heap.size + 1) (some ⟨w.heap.size, 0, none⟩) 2 [x, y] :=
  (Blk.new w 5 [x, y]).bs (.cons hx.1 hx.2 (.cons hy.1 hy.2 .nil)) (by omega) rfl
theorem fill_pad {s : Nat} (h : 0 < s % 8) : padT (8 - ((s : Int) % 8)) = nilT (fillT s) := by
  unfold padT fillT
  congr 1
  omega

/-- a slice of bytes of the call's own, and a number, are handed back -/
def GivesPB (w : World) (ys : List Int) (x : Int) (e : Ending) (w' : World) : Prop :=
  ∃ A c, e = .returned (.tuple #[.slice A ys.length c, .int .i64 x]) ∧ OwnB 5 w' w.heap.size A ys.length c ys ∧ Below w.heap.size w w'
theorem GivesPB.be {w w' : World} {ys : List Int} {x : Int} {e : Ending} (h : GivesPB w ys x e w') : GivesBE w ys x e w' := by
  obtain ⟨A, c, he, ho, hB⟩ := h
  have hcap := ho.cap
  exact ⟨A, c, he, ho.bs (Nat.le_refl _), ⟨hcap.1, by have := hcap.2; simp only [maxLen] at this; omega⟩, hB⟩
theorem GivesPB.of {w w' : World} {ys zs : List Int} {x y : Int} {A : Option Addr} {n c : Nat} (hy : ys = zs) (hx : x = y) (h : OwnB 5 w' w.heap.size A n c zs) (hB : Below w.heap.size w w') : GivesPB w ys x (.returned (.tuple #[.slice A n c, .int .i64 y])) w' := by
  subst hy hx
  have hl := h.len
  subst hl
  exact ⟨A, c, rfl, h, hB⟩

set_option maxRecDepth 100000 in
set_option maxHeartbeats 3200000 in
theorem tlput_own (A : Option Addr) (n c : Nat) (os : List Od) (w : World) (hn : n ≤ 140737488355328) (ho : Os w w.heap.size A n os) :
    Calls Try.prog 32 #[.slice A n c] w (GivesPB w (putT (os.map Od.v)) (canT (os.map Od.v))) := by
  obtain ⟨i0, hi, hz0, hz1, hz2⟩ := info_parts info5
  go_enter Try.func32, Try.ntmps32
  go_wp2_with fail
  refine (tlcan_any A n c os w hn ho).mono ?_
  rintro e wc ⟨rfl, hBc⟩
  have hcr := canT_err (os.map Od.v)
  by_cases hcan : canT (os.map Od.v) = 0
  · obtain ⟨hchk, hsum⟩ := canT_zero hcan
    have HCAN := Lib.hid hcan
    have hTl : (flatT (os.map Od.v)).length ≤ 256 := by rw [flatT_len]; exact hsum
    have HPUT := Lib.hid (show putT (os.map Od.v) = flatT (os.map Od.v) ++ nilT (fillT (flatT (os.map Od.v)).length) by unfold putT; rw [if_pos hcan])
    have hmem := chkT_mem hchk
    have hlen := ho.len
    have hsc := hBc.size
    rw [hcan]
    clear hcr hcan hchk hsum
    go_wp2_with fail
    go_loopw [5, 16] (fun b i wr => ∃ m s A' c', m ≤ n ∧ i = .int .i64 (m : Nat) ∧ b = .slice A' s c' ∧ s ≤ 256 ∧ Hid (s = (flatT ((os.map Od.v).take m)).length) ∧ OwnB 5 wr w.heap.size A' s c' (flatT ((os.map Od.v).take m)) ∧ Below w.heap.size w wr) (fun _ i _ => n - (intOf i).toNat)
    case atStart => exact ⟨0, 0, none, 0, Nat.zero_le _, rfl, rfl, by omega, Lib.hid rfl, OwnB.none_ _ _ _, hBc⟩
    case round =>
      obtain ⟨m, s, A', c', hm, rfl, rfl, hs, HS, h2, hB⟩ := hrel
      by_cases hmn : m < n
      · obtain ⟨b, p, rfl, hbl, hc⟩ := ho.mem (by omega)
        obtain ⟨q1, q2⟩ := hc m hmn
        have hok := ho.at_ hmn
        have hm1 := hmem _ (List.mem_map.2 ⟨_, getD_mem (by omega), rfl⟩ : (os.getD m zeroO).v ∈ os.map Od.v)
        have hft := flatT_take (l := os.map Od.v) (i := m) (by simp; omega)
        have hfl := flatT_take_le (os.map Od.v) (m + 1)
        rw [getV] at hft
        obtain ⟨o, hoo⟩ : ∃ o, o = os.getD m zeroO := ⟨_, rfl⟩
        rw [← hoo] at q1 q2 hok hm1 hft
        have c1 := (hB.cell (p := ⟨b, p + m * 2, none⟩) hbl).trans q1
        have c2 := (hB.cell (p := ⟨b, p + m * 2 + 1, none⟩) hbl).trans q2
        clear q1 q2 hc hoo
        obtain ⟨kk, DA, dn, dc, d⟩ := o
        obtain ⟨hk, hdn, hbs⟩ := hok
        dsimp only [Od.v] at c1 c2 hk hdn hbs hm1 hft
        obtain ⟨-, hd255⟩ := hm1
        rw [hbs.len] at hd255
        have HBS := Lib.hid hbs
        rw [partT_v kk d dn hbs.len hd255] at hft
        have HFT := Lib.hid hft
        rw [hft] at hfl
        simp only [List.length_append, List.length_cons, List.length_nil] at hfl
        rw [hbs.len, ← HS.out] at hfl
        have hs1 : s + 2 + dn ≤ 256 := by omega
        have HO := Lib.hid ho
        have hsz := hB.size
        have hlt2 := h2.lt
        have hl1 := Low.alloc wr (.cells #[.int .i64 kk, .slice DA dn dc] 65)
        have hl2 := Low.alloc (wr.alloc (.cells #[.int .i64 kk, .slice DA dn dc] 65)) (.cells #[.int .u8 (kk % 256), .int .u8 (dn : Int)] 5)
        have hown0 := h2.below (Low.trans hl1 hl2)
        have hsrc := two_src (wr.alloc (.cells #[.int .i64 kk, .slice DA dn dc] 65)) (kk % 256) (dn : Int) (by omega) (by omega)
        rw [World.size_alloc] at hsrc
        have hbp : BlkV ((wr.alloc (.cells #[.int .i64 kk, .slice DA dn dc] 65)).alloc (.cells #[.int .u8 (kk % 256), .int .u8 (dn : Int)] 5)) 65 wr.heap.size [.int .i64 kk, .slice DA dn dc] := (BlkV.new wr 65 [.int .i64 kk, .slice DA dn dc]).alloc _
        have HBP := Lib.hid hbp
        have HBE := Lib.hid (hB.trans ((Low.trans hl1 hl2).mono hsz))
        have HS1 := Lib.hid hs1
        have hne : some wr.heap.size ≠ (Value.slice A' s c').ownBlock := fun e => by have := (hlt2 _ e.symm).2; omega
        have HNE := Lib.hid hne
        clear h2 hft hbs hfl hmem ho hl1 hl2 hbp hB hs1 hne
        go_wp2_with (at_builtin; refine wpList_append_bs rfl _ _ 28 rfl w.heap.size 5 i0 Try.underlying28 hi hz0 hz1 hz2 A' s c' (flatT ((os.map Od.v).take m)) rfl hown0 _ 2 2 (wr.heap.size + 1 + 1) [kk % 256, (dn : Int)] rfl hsrc (by omega) (by simp only [World.size_alloc]; omega) ?_; intro A2 c3 w1 hown hgr hob; refine Hid.out ?_)
        refine Lib.hid ?_
        have hbp1 : BlkV w1 65 wr.heap.size [.int .i64 kk, .slice DA dn dc] := (hgr.block _ HBP.out.lt HNE.out).trans HBP.out
        have g1 : w1.cell? ⟨wr.heap.size, 1, none⟩ = some (.slice DA dn dc) := by rw [hbp1.cell 1]; rfl
        have hb1 := HBE.out.grown hgr HBE.out.size fun x e => (hlt2 x e).1
        have hdat := HBS.out.below hb1
        have hlt3 := hown.lt
        have hsz1 := hb1.size
        clear hgr hob hown0 hsrc hbp1 c1 c2
        go_wp2_with (at_builtin; refine wpList_append_bs rfl _ _ 28 rfl w.heap.size 5 i0 Try.underlying28 hi hz0 hz1 hz2 A2 (s + 2) c3 (flatT ((os.map Od.v).take m) ++ [kk % 256, (dn : Int)]) rfl hown DA dn dc w.heap.size d rfl hdat (by have := HS1.out; omega) hsz1 ?_; intro A4 c4 w2 hown4 hgr hob; refine Hid.out ?_)
        refine Lib.hid ?_
        have hb2 := hb1.grown hgr hsz1 fun x e => (hlt3 x e).1
        have HOW := Lib.hid hown4
        clear hgr hob hown hdat g1 hown4
        go_wp2_with fail
        go_roundw
        case rel =>
          refine ⟨m + 1, s + 2 + dn, A4, c4, by omega, by go_num, rfl, HS1.out, Lib.hid ?_, ?_, hb2⟩
          · rw [HFT.out, List.length_append, ← HS.out, List.length_append, HBS.out.len]
            simp only [List.length_cons, List.length_nil]
            omega
          · rw [HFT.out, ← List.append_assoc]
            exact HOW.out
        case measure => simp [intOf]; omega
      · obtain rfl : m = n := by omega
        have hall : (os.map Od.v).take m = os.map Od.v := List.take_of_length_le (by simp [hlen])
        rw [hall] at h2 HS
        generalize flatT (os.map Od.v) = ys at *
        have hys := h2.len
        have hBsz := hB.size
        have hlt2 := h2.lt
        by_cases hov : 0 < s % 8
        · have hf8 := fill_pad hov
          have HF := Lib.hid hf8
          have HOV := Lib.hid hov
          have hov2 : 0 < (s : Int) % 8 := by omega
          have HO2 := Lib.hid h2
          clear hf8 hov h2
          go_wp2_with fail
          refine (tlpad_any _ wr (by unfold i64ok; omega)).mono ?_
          rintro e w1 ⟨A1, c1, rfl, hown1, hB1⟩
          rw [HF.out] at hown1 ⊢
          have hown0 := HO2.out.below hB1
          have hsrc := hown1.bs (Nat.le_refl _)
          have hfl := nilT_len (fillT s)
          have hflt := fillT_lt s
          have HB1 := Lib.hid (hB.trans (hB1.mono hBsz))
          have HPU := Lib.hid (show putT (os.map Od.v) = ys ++ nilT (fillT s) by rw [HPUT.out, hys])
          generalize nilT (fillT s) = zs at *
          obtain ⟨z, hz⟩ : ∃ z, z = zs.length := ⟨_, rfl⟩
          have hz8 : z < 8 := by omega
          rw [← hz] at hsrc ⊢
          have HZ := Lib.hid hz
          clear hown1 hB1 hB hz hfl hflt
          go_wp2_with (at_builtin; refine wpList_append_bs rfl _ _ 28 rfl w.heap.size 5 i0 Try.underlying28 hi hz0 hz1 hz2 A' s c' ys rfl hown0 A1 z c1 w1.heap.size zs rfl hsrc (by omega) HB1.out.size ?_; intro A3 c3 w3 hown3 hgr hob; refine Hid.out ?_)
          refine Lib.hid ?_
          have hb3 := HB1.out.grown hgr HB1.out.size fun x e => (hlt2 x e).1
          have HOW := Lib.hid hown3
          clear hgr hob hown3 hown0 hsrc
          go_wp2_with fail
          go_ret2
          exact GivesPB.of HPU.out HCAN.out HOW.out hb3
        · have hov2 : (s : Int) % 8 = 0 := by omega
          have HPU := Lib.hid (show putT (os.map Od.v) = ys by
            rw [HPUT.out, hys, show fillT s = 0 by unfold fillT; omega]
            simp [nilT])
          have HOW := Lib.hid h2
          clear h2 hov
          go_wp2_with fail
          go_ret2
          exact GivesPB.of HPU.out HCAN.out HOW.out hB
  · have HP := Lib.hid (putT_none hcan)
    generalize canT (os.map Od.v) = x at *
    have hx : (x != 0) = true := by simpa using hcan
    go_wp2_with fail
    go_ret2
    rw [HP.out]
    exact ⟨none, 0, rfl, OwnB.none_ _ _ _, hBc⟩
theorem tlput_any (A : Option Addr) (n c : Nat) (os : List Od) (w : World) (hn : n ≤ 140737488355328) (ho : Os w w.heap.size A n os) :
    Calls Try.prog 32 #[.slice A n c] w (GivesBE w (putT (os.map Od.v)) (canT (os.map Od.v))) := (tlput_own A n c os w hn ho).mono fun _ _ h => h.be
end Go.Proofs.Ytnfiijbnfmcpjaa
