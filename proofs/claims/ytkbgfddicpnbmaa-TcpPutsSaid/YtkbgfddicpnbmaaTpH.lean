/- What the document's own Put answers: the bytes of options. Condition: at most 2^47 options. -/
import Derived.Test.YtkbgfddicpnbmaaTpF
import Derived.Test.YtkbgfddicpnbmaaTpG
namespace Go.Proofs.Ytkbgfddicpnbmaa
open Go.RowKit
set_option linter.unusedVariables false

theorem flat_take {l : List Ob} {i : Nat} (h : i < l.length) : flatO (l.take (i + 1)) = flatO (l.take i) ++ (headO (l.getD i zeroB) ++ (l.getD i zeroB).2) := by
  unfold flatO
  rw [List.take_succ_eq_append_getElem h, List.flatMap_append]
  simp [List.getD, h]
theorem flat_take_le (l : List Ob) (i : Nat) : (flatO (l.take i)).length ≤ (flatO l).length := by
  have h : flatO l = flatO (l.take i) ++ flatO (l.drop i) := by unfold flatO; rw [← List.flatMap_append, List.take_append_drop]
  rw [h, List.length_append]; omega

theorem below_app {base : Nat} {w wr w1 : World} {o : Obj} {X : Option Nat} (hB : Below base w wr) (hsz : base ≤ wr.heap.size) (hgr : (wr.alloc o).grownBy w1 X) (hX : ∀ x, X = some x → base ≤ x) : Below base w w1 :=
  (hB.alloc hsz o).grown hgr (by simp only [World.size_alloc]; omega) hX
def sliceLen : Value → Nat
  | .slice _ n _ => n
  | _ => 0
theorem one_src (wr : World) (x : Int) (h0 : 0 ≤ x) (h1 : x < 256) : Bs (wr.alloc (.cells #[.int .u8 x] 5)) (wr.heap.size + 1) (some ⟨wr.heap.size, 0, none⟩) 1 [x] :=
  (Blk.new wr 5 [x]).bs (.cons h0 h1 .nil) (by omega) rfl

set_option maxRecDepth 100000 in
set_option maxHeartbeats 2000000 in
theorem trput_any (A : Option Addr) (n c : Nat) (os : List Od) (w : World) (hn : n ≤ 140737488355328) (ho : Os w w.heap.size A n os) :
    Calls Try.prog 29 #[.slice A n c] w (GivesBE w (putO (os.map Od.v)) (canO (os.map Od.v))) := by
  obtain ⟨i0, hi, hz0, hz1, hz2⟩ := info_parts info5
  go_enter Try.func29, Try.ntmps29
  go_wp2_with fail
  refine (trcan_any A n c os w hn ho).mono ?_
  rintro e wc ⟨rfl, rfl⟩
  have hcr := canO_err (os.map Od.v)
  by_cases hcan : canO (os.map Od.v) = 0
  · obtain ⟨hchk, hsum⟩ := canO_zero hcan
    have HCAN := Lib.hid hcan
    have hTl : (flatO (os.map Od.v)).length ≤ 40 := by rw [flat_len hchk]; exact hsum
    have HPUT := Lib.hid (show putO (os.map Od.v) = padO (flatO (os.map Od.v)) by unfold putO; rw [if_pos hcan])
    have hmem := chkO_mem hchk
    have hlen := ho.len
    rw [hcan]
    clear hcr hcan hchk hsum
    go_wp2_with fail
    go_loopw [5, 6] (fun b i wr => ∃ m s A' c', m ≤ n ∧ i = .int .i64 (m : Nat) ∧ b = .slice A' s c' ∧ s ≤ 40 ∧ Hid (s = (flatO ((os.map Od.v).take m)).length) ∧ OwnB 5 wr wc.heap.size A' s c' (flatO ((os.map Od.v).take m)) ∧ Below wc.heap.size wc wr) (fun _ i _ => n - (intOf i).toNat)
    case atStart => exact ⟨0, 0, none, 0, Nat.zero_le _, rfl, rfl, by omega, Lib.hid rfl, OwnB.none_ _ _ _, Below.refl _ _⟩
    case round =>
      obtain ⟨m, s, A', c', hm, rfl, rfl, hs, HS, h2, hB⟩ := hrel
      by_cases hmn : m < n
      · obtain ⟨b, p, rfl, hbl, hc⟩ := ho.mem (by omega)
        obtain ⟨q1, q2⟩ := hc m hmn
        have hok := ho.at_ hmn
        have hm1 := hmem _ (List.mem_map.2 ⟨_, getD_mem (by omega), rfl⟩ : (os.getD m zeroO).v ∈ os.map Od.v)
        have hft := flat_take (l := os.map Od.v) (i := m) (by simp; omega)
        have hfl := flat_take_le (os.map Od.v) (m + 1)
        rw [getD_v] at hft
        obtain ⟨o, hoo⟩ : ∃ o, o = os.getD m zeroO := ⟨_, rfl⟩
        rw [← hoo] at q1 q2 hok hm1 hft
        have c1 := (hB.cell (p := ⟨b, p + m * 2, none⟩) hbl).trans q1
        have c2 := (hB.cell (p := ⟨b, p + m * 2 + 1, none⟩) hbl).trans q2
        clear q1 q2 hc hoo
        obtain ⟨kk, DA, dn, dc, d⟩ := o
        obtain ⟨hk, hdn, hbs⟩ := hok
        dsimp only [Od.v] at c1 c2 hk hdn hbs hm1 hft
        obtain ⟨hk1, hk2, hk3⟩ := hm1
        have HBS := Lib.hid hbs
        have HFT := Lib.hid hft
        rw [hft] at hfl
        simp only [List.length_append, head_len] at hfl
        rw [hbs.len, ← HS.out] at hfl
        rw [hbs.len] at hk3
        have HO := Lib.hid ho
        have hsz := hB.size
        have hlt2 := h2.lt
        have hown0 := h2.below (Low.alloc wr (.cells #[.int .u8 (kk % 256)] 5))
        have hsrc := one_src wr (kk % 256) (by omega) (by omega)
        clear ho hft hbs hmem
        by_cases he1 : kk = 1
        · subst he1
          have hd0 := fits_nop hk3
          subst hd0
          have e1 : (1 : Int) % 256 = 1 := by decide
          rw [e1] at hown0 hsrc
          rw [if_pos rfl] at hfl
          have hs1 : s + 1 ≤ 40 := by omega
          obtain rfl : d = [] := List.eq_nil_of_length_eq_zero HBS.out.len
          have HNEW := Lib.hid (show flatO ((os.map Od.v).take (m + 1)) = flatO ((os.map Od.v).take m) ++ [1] from HFT.out)
          clear h2 hk3 hfl
          go_wp2_with (at_builtin; refine wpList_append_bs rfl _ _ 24 rfl wc.heap.size 5 i0 Try.underlying24 hi hz0 hz1 hz2 A' s c' (flatO ((os.map Od.v).take m)) rfl hown0 _ 1 1 (wr.heap.size + 1) [1] rfl hsrc (by omega) (by simp only [World.size_alloc]; omega) ?_; intro A2 c2 w1 hown hgr hob; refine Hid.out ?_)
          refine Lib.hid ?_
          have hb1 := below_app hB hsz hgr fun x e => (hlt2 x e).1
          have g1 := (hb1.cell (p := ⟨b, p + m * 2, none⟩) hbl).trans ((hB.cell (p := ⟨b, p + m * 2, none⟩) hbl).symm.trans c1)
          have HOWN := Lib.hid hown
          clear hown hgr hob hown0 hsrc
          go_wp2_with fail
          go_roundw
          case rel =>
            refine ⟨m + 1, s + 1, A2, c2, by omega, by go_num, rfl, hs1, Lib.hid ?_, ?_, hb1⟩
            · rw [HNEW.out, List.length_append, ← HS.out]; rfl
            · rw [HNEW.out]; exact HOWN.out
          case measure => simp [intOf]; omega
        · have hs1 : s + 2 + dn ≤ 40 := by rw [if_neg he1] at hfl; omega
          have hkb : (kk != 1) = true := by simpa using he1
          have HNEW := Lib.hid (show flatO ((os.map Od.v).take (m + 1)) = flatO ((os.map Od.v).take m) ++ [kk % 256] ++ [((dn : Int) + 2) % 256] ++ d by
            rw [HFT.out]
            unfold headO
            rw [if_neg he1, HBS.out.len, Int.add_comm 2 (dn : Int)]
            simp)
          have HS1 := Lib.hid hs1
          clear h2 hk3 hfl he1 hs1 hk1 hk2
          go_wp2_with (at_builtin; refine wpList_append_bs rfl _ _ 24 rfl wc.heap.size 5 i0 Try.underlying24 hi hz0 hz1 hz2 A' s c' (flatO ((os.map Od.v).take m)) rfl hown0 _ 1 1 (wr.heap.size + 1) [kk % 256] rfl hsrc (by omega) (by simp only [World.size_alloc]; omega) ?_; intro A2 c3 w1 hown hgr hob; refine Hid.out ?_)
          refine Lib.hid ?_
          have hb1 := below_app hB hsz hgr fun x e => (hlt2 x e).1
          have g1 := (hb1.cell (p := ⟨b, p + m * 2, none⟩) hbl).trans ((hB.cell (p := ⟨b, p + m * 2, none⟩) hbl).symm.trans c1)
          have g2 := (hb1.cell (p := ⟨b, p + m * 2 + 1, none⟩) hbl).trans ((hB.cell (p := ⟨b, p + m * 2 + 1, none⟩) hbl).symm.trans c2)
          have hown1 := hown.below (Low.alloc w1 (.cells #[.int .u8 (((dn : Int) + 2) % 256)] 5))
          have hsrc1 := one_src w1 (((dn : Int) + 2) % 256) (by omega) (by omega)
          have hlt3 := hown.lt
          have hsz1 := hb1.size
          clear hown hgr hob hown0 hsrc hlt2 c1 c2
          go_wp2_with (at_builtin; refine wpList_append_bs rfl _ _ 24 rfl wc.heap.size 5 i0 Try.underlying24 hi hz0 hz1 hz2 A2 (s + 1) c3 (flatO ((os.map Od.v).take m) ++ [kk % 256]) rfl hown1 _ 1 1 (w1.heap.size + 1) [((dn : Int) + 2) % 256] rfl hsrc1 (by omega) (by simp only [World.size_alloc]; omega) ?_; intro A4 c4 w2 hown hgr hob; refine Hid.out ?_)
          refine Lib.hid ?_
          have hb2 := below_app hb1 hsz1 hgr fun x e => (hlt3 x e).1
          have g3 := (hb2.cell (p := ⟨b, p + m * 2 + 1, none⟩) hbl).trans ((hb1.cell (p := ⟨b, p + m * 2 + 1, none⟩) hbl).symm.trans g2)
          have hlt4 := hown.lt
          have hsz2 := hb2.size
          have hdat : Bs w2 wc.heap.size DA dn d := HBS.out.below hb2
          clear hgr hob hown1 hsrc1 hlt3 g1 g2 hb1
          go_wp2_with (at_builtin; refine wpList_append_bs rfl _ _ 24 rfl wc.heap.size 5 i0 Try.underlying24 hi hz0 hz1 hz2 A4 (s + 1 + 1) c4 (flatO ((os.map Od.v).take m) ++ [kk % 256] ++ [((dn : Int) + 2) % 256]) rfl hown DA dn dc wc.heap.size d rfl hdat (by have := HS1.out; omega) (by omega) ?_; intro A6 c6 w3 hown6 hgr hob; refine Hid.out ?_)
          refine Lib.hid ?_
          have hb3 : Below wc.heap.size wc w3 := hb2.grown hgr hsz2 fun x e => (hlt4 x e).1
          have HOWN := Lib.hid hown6
          clear hown hgr hob hown6 g3 hdat
          go_wp2_with fail
          go_roundw
          case rel =>
            refine ⟨m + 1, s + 1 + 1 + dn, A6, c6, by omega, by go_num, rfl, by have := HS1.out; omega, Lib.hid ?_, ?_, hb3⟩
            · rw [HNEW.out]
              simp only [List.length_append, ← HS.out, HBS.out.len, List.length_cons, List.length_nil]
            · rw [HNEW.out]; exact HOWN.out
          case measure => simp [intOf]; omega
      · obtain rfl : m = n := by omega
        rw [List.take_of_length_le (by simp [hlen])] at h2
        have HSS := Lib.hid (show s = (flatO (os.map Od.v)).length by have := HS.out; rwa [List.take_of_length_le (by simp [hlen])] at this)
        obtain ⟨fs, hfs⟩ : ∃ fs, fs = flatO (os.map Od.v) := ⟨_, rfl⟩
        rw [← hfs] at h2
        have HFS := Lib.hid hfs
        clear hfs ho hmem hlen HS hTl
        go_wp2_with fail
        go_loopw [5] (fun b wr => ∃ A' r c' k, b = .slice A' r c' ∧ r ≤ 43 ∧ Hid (r = s + k) ∧ OwnB 5 wr wc.heap.size A' r c' (fs ++ List.replicate k 0) ∧ k ≤ padN s ∧ Below wc.heap.size wc wr) (fun b _ => s + padN s - sliceLen b)
        case atStart => exact ⟨A', s, c', 0, rfl, by omega, Lib.hid rfl, by simpa using h2, Nat.zero_le _, hB⟩
        case round =>
          clear h2 hB
          obtain ⟨A', r, c', k, rfl, hr43, HR, h2, hk, hB⟩ := hrel
          have hp := pad_lt s
          by_cases hm : r % 4 = 0
          · have hm2 : (r : Int) % 4 = 0 := by omega
            have HM := Lib.hid hm
            clear hm
            go_wp2_with fail
            go_ret2
            have hkp : k = padN s := by
              have := HM.out
              rw [HR.out] at this
              unfold padN at hk ⊢
              omega
            have hlen := h2.len
            have hpo : fs ++ List.replicate k 0 = putO (os.map Od.v) := by
              rw [HPUT.out, ← HFS.out]
              unfold padO
              rw [show fs.length = s by rw [HFS.out]; exact HSS.out.symm, ← hkp]
            rw [hpo] at h2 hlen
            rw [HCAN.out]
            have hcap := h2.cap
            refine ⟨A', c', ?_, ?_, ⟨by rw [hlen]; exact hcap.1, by have := hcap.2; simp only [maxLen] at this; omega⟩, hB⟩
            · rw [hlen]; rfl
            · rw [hlen]; exact h2.bs (Nat.le_refl _)
          · have hm2 : ((r : Int) % 4 != 0) = true := by simp; omega
            have hk1 : k + 1 ≤ padN s := by
              have := HR.out
              unfold padN at hk ⊢
              omega
            have hsz := hB.size
            have hlt2 := h2.lt
            have hown0 := h2.below (Low.alloc wr (.cells #[.int .u8 0] 5))
            have hsrc := one_src wr 0 (by omega) (by omega)
            clear h2 hm
            go_wp2_with (at_builtin; refine wpList_append_bs rfl _ _ 24 rfl wc.heap.size 5 i0 Try.underlying24 hi hz0 hz1 hz2 A' r c' (fs ++ List.replicate k 0) rfl hown0 _ 1 1 (wr.heap.size + 1) [0] rfl hsrc (by omega) (by simp only [World.size_alloc]; omega) ?_; intro A2 c2 w1 hown hgr hob; refine Hid.out ?_)
            refine Lib.hid ?_
            have hb1 := below_app hB hsz hgr fun x e => (hlt2 x e).1
            have HOWN := Lib.hid hown
            clear hown hgr hob hown0 hsrc
            go_wp2_with fail
            go_roundw
            case rel =>
              refine ⟨A2, r + 1, c2, k + 1, rfl, by have := HR.out; omega, Lib.hid (by have := HR.out; omega), ?_, hk1, hb1⟩
              rw [List.replicate_succ', ← List.append_assoc]
              exact HOWN.out
            case measure =>
              simp only [sliceLen]
              have := HR.out
              omega
  · have HP := Lib.hid (show putO (os.map Od.v) = [] by unfold putO; rw [if_neg hcan])
    generalize canO (os.map Od.v) = x at *
    have hx : (x != 0) = true := by simpa using hcan
    go_wp2_with fail
    go_ret2
    rw [HP.out]
    exact ⟨none, 0, rfl, Bs.nil _ _ _, ⟨Nat.le_refl _, by omega⟩, Below.refl _ _⟩
end Go.Proofs.Ytkbgfddicpnbmaa
