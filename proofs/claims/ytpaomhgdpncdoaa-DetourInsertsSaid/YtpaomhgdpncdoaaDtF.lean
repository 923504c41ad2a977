/- detour.packet: a packet of a fixed header and of lists of bytes behind it, with the Length that fits. Condition: the header can be, the lists are at most 65535 bytes together. -/
import Derived.Test.YtpaomhgdpncdoaaDtW
import Derived.Test.YtpaomhgdpncdoaaJSx
import Derived.Test.YtpaomhgdpncdoaaJSy
import Derived.Test.YtpaomhgdpncdoaaJOct
namespace Go.Proofs.Ytpaomhgdpncdoaa
open Go.RowKit
set_option linter.unusedVariables false

set_option maxHeartbeats 1600000 in
set_option maxRecDepth 100000 in
theorem packet_any (h : Hd) (A : Option Addr) (m c : Nat) (vs : List (Option Addr × Nat × Nat)) (yss : List (List Int)) (N : Nat) (w : World) (hk : h.ok) (hcan : canB h = true) (hm : vs.length = m) (hm2 : m ≤ 140737488355328) (hr : Row w A vs yss)
    (hN : yss.flatten.length = N) (hbig : N ≤ 65535) :
    Calls Try.prog 26 #[headV h, .slice A m c] w fun e w' => ∃ A' c', e = .returned (.slice A' (40 + N) c') ∧ OwnB 5 w' w.heap.size A' (40 + N) c' (headL (sizedH (N : Int) h) ++ yss.flatten) ∧ Low w w' := by
  obtain ⟨i0, hi, hz0, hz1, hz2⟩ := info_parts info5
  have HI := Lib.hid (And.intro hi (And.intro hz0 (And.intro hz1 hz2)))
  clear hi hz0 hz1 hz2
  have HO := Lib.hid hk
  have HS := Lib.hid hk.s
  have HD := Lib.hid hk.d
  have HN := Lib.hid hN
  have HM := Lib.hid hm
  have HHL := Lib.hid (headL_length hk)
  have HPL := Lib.hid (putL_yes hcan)
  clear hN hm hk
  unfold headV
  go_enter Try.func26, Try.ntmps26
  go_wp2_with ((with_reducible refine wpList_box_v rfl 41 (.tmp 0) rfl (headC h) rfl ?_); intro w1 HB hL hz1; refine Hid.out ?_)
  refine Lib.hid ?_
  replace HB := Lib.hid HB
  clear hz1
  go_wp2_with (with_reducible refine wpList_load_head rfl (.tmp 2) rfl w.heap.size rfl h HB.out HS.out HD.out ?_)
  refine (put_any none 0 0 [] h w1 HO.out (by omega) (Bs.nil _ _ _)).mono ?_
  rintro e w2 ⟨v, rfl, g2, rfl, hg2, hk2, hl2, ha2, hlow2⟩
  rw [List.nil_append] at hk2 hl2 ha2
  rw [HPL.out] at hk2 hl2 ha2
  rw [HPL.out, HHL.out, Nat.zero_add]
  have hsz1 : w.heap.size < w1.heap.size := HB.out.lt
  have hL2 : Low w w2 := Low.trans hL hlow2
  have hown : OwnB 5 w2 w1.heap.size (some ⟨g2, 0, none⟩) 40 40 (headL h ++ upto yss 0) := by
    show OwnB _ _ _ _ _ _ (headL h ++ [])
    rw [List.append_nil]
    exact OwnB.ofBlk hk2 ha2 hg2 HHL.out (by simp only [maxLen]; omega)
  have HOW := Lib.hid hown
  have hge2 := hlow2.size
  clear hg2 hk2 hl2 ha2 hlow2 hown
  generalize w1.heap.size = g1 at *
  go_wp2_with fail
  have HB2 := Lib.hid (Below.refl g1 w2)
  go_loopw [5, 12] (fun s i wr => ∃ j : Nat, j ≤ m ∧ i = .int .i64 j ∧ ∃ (A' : Option Addr) (n' c' : Nat), s = .slice A' n' c' ∧ Hid (n' = 40 + (upto yss j).length) ∧ Hid (OwnB 5 wr g1 A' n' c' (headL h ++ upto yss j)) ∧ Hid (Below g1 w2 wr) ∧ g1 ≤ wr.heap.size) (fun _ i _ => m - (intOf i).toNat)
  case atStart => exact ⟨0, Nat.zero_le _, rfl, _, _, _, rfl, Lib.hid rfl, HOW, HB2, hge2⟩
  case round =>
    clear HOW HB2
    obtain ⟨j, hj, rfl, A', n', c', rfl, HNN, HOW, HBR, hgr⟩ := hrel
    have hup := upto_le yss j
    rw [HN.out] at hup
    have hn' := HNN.out
    have hL3 : Low w wr := Below.trans hL2 (HBR.out.mono (by omega))
    by_cases hlt : j < m
    · obtain ⟨b, o, rfl, hbw, hcc⟩ := hr.mem (by rw [HM.out]; omega)
      obtain ⟨a, n, cc, hve⟩ : ∃ a n cc, vs.getD j (none, 0, 0) = (a, n, cc) := ⟨_, _, _, rfl⟩
      have h0 := hcc j (by rw [HM.out]; omega)
      have hv := hr.each j (by rw [HM.out]; omega)
      rw [hve] at h0 hv
      dsimp only at h0 hv
      have hv2 := hv.below' hL3 hL3.size
      rw [← hL3.cell (p := ⟨b, o + j, none⟩) hbw] at h0
      have hle : (upto yss (j + 1)).length = (upto yss j).length + n := by rw [upto_succ yss j (by rw [hr.len, HM.out]; omega), List.length_append, hv.len]
      have HL := Lib.hid hle
      have HSU := Lib.hid (upto_succ yss j (by rw [hr.len, HM.out]; omega))
      have hup2 := upto_le yss (j + 1)
      rw [HN.out] at hup2
      have hlim : n' + n ≤ 140737488355328 := by omega
      clear hcc hv hle hve hup hup2 hn'
      obtain ⟨ys, hys⟩ : ∃ ys, ys = yss.getD j [] := ⟨_, rfl⟩
      rw [← hys] at hv2 HSU
      have HV2 := Lib.hid hv2
      clear hys hv2
      obtain ⟨hi, hz0, hz1, hz2⟩ := HI.out
      go_wp2_with (at_builtin; refine wpList_append_bs rfl _ _ 22 rfl g1 5 i0 Try.underlying22 hi hz0 hz1 hz2 A' n' c' (headL h ++ upto yss j) rfl HOW.out a n cc wr.heap.size ys rfl HV2.out hlim hgr ?_; intro A5 c5 w5 hown5 hgr5 hob; refine Hid.out ?_)
      refine Lib.hid ?_
      have hlt2 := HOW.out.lt
      have hb5 := HBR.out.grown hgr5 (by omega) fun k e => (hlt2 k e).1
      rw [List.append_assoc, ← HSU.out] at hown5
      have HOW5 := Lib.hid hown5
      have HB5 := Lib.hid hb5
      have hge5 := Nat.le_trans hgr hgr5.size
      have HN5 : Hid (n' + n = 40 + (upto yss (j + 1)).length) := Lib.hid (by rw [HL.out, HNN.out]; omega)
      clear hown5 hob hb5 hlt2 hgr5 hi hz0 hz1 hz2 h0 HV2
      go_wp2_with fail
      exact ⟨⟨j + 1, by omega, by go_num, _, _, _, rfl, HN5, HOW5, HB5, hge5⟩, by simp [intOf]; omega⟩
    · obtain rfl : j = m := by omega
      have hal : upto yss j = yss.flatten := upto_all yss j (by rw [hr.len, HM.out]; omega)
      have hown := HOW.out
      rw [hal] at hn' hown
      rw [HN.out] at hn'
      clear HNN
      subst hn'
      have hcap := hown.cap
      simp only [maxLen] at hcap
      have HSO := Lib.hid (sized_out HO.out hcan HN.out hbig)
      have HLE := Lib.hid (show (headL (sizedH (N : Int) h) ++ yss.flatten).length = 40 + N by rw [len_back (sizedH_ok HO.out (by unfold i64ok; omega)), HN.out])
      have HBS := Lib.hid (hown.bs (Nat.le_refl _))
      have HL3 := Lib.hid hL3
      clear HOW HBR hown hal hup
      go_wp2_with fail
      refine (sized_own A' (40 + N) c' (headL h ++ yss.flatten) wr (by omega) (by omega) (by omega) HBS.out).mono ?_
      rintro e w6 ⟨A6, c6, rfl, ho6, hB6⟩
      rw [HSO.out.1, HSO.out.2, HLE.out]
      rw [HSO.out.2, HLE.out] at ho6
      have HO6 := Lib.hid (ho6.lower HL3.out.size)
      have hL6 := HL3.out.trans hB6
      clear ho6 hB6 HSO HLE HBS
      go_wp2_with fail
      refine (mustb_yes A6 (40 + N) c6 w6).mono ?_
      rintro e w6 ⟨rfl, rfl⟩
      go_wp2_with fail
      go_ret
      exact ⟨A6, c6, rfl, HO6.out, hL6⟩
end Go.Proofs.Ytpaomhgdpncdoaa
