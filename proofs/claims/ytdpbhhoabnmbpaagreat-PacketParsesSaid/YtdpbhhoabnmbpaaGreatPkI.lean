/- What the document's Same answers of two packets that say the same: true. No condition. -/
import Derived.Test.YtdpbhhoabnmbpaaGreatPkD
import Derived.Test.YtdpbhhoabnmbpaaGreatJTd
import Derived.Test.YtdpbhhoabnmbpaaGreatJSrB
import Derived.Test.YtdpbhhoabnmbpaaGreatJIc
set_option maxRecDepth 100000
namespace Go.Proofs.YtdpbhhoabnmbpaaGreat
open Go.RowKit
set_option linter.unusedVariables false

section
variable {ops : Array Oper} {rest : List Oper} {o : Oper} {a : Act} {w : World} {Q : Exit → Act → World → Prop}
theorem wpList_load_hd (hgd : o.guard = none) (x : Operand) (ho : o.op = .load 26 x) (b p : Nat) (hx : a.eval x = .pointer (some ⟨b, p, none⟩)) (h : Hd) (hs : h.s.length = 16) (hd : h.d.length = 16) (hc : w.rangeAt b p (headC h))
    (hk : wpList Tryz.prog ops Q rest (a.put o.dst (.agg (headC h).toArray)) w) : wpList Tryz.prog ops Q (o :: rest) a w :=
  wpList_load_mid hgd 26 x ho b p hx (headC h) _ hc Tryz.underlying26 rfl (by rw [head_size]; simp [headC_length hs hd]) hk
theorem wpList_load_srq_g (hw : Region.wanted o (yielded ops a.tmps) = true) (x : Operand) (ho : o.op = .load 30 x) (b p : Nat) (hx : a.eval x = .pointer (some ⟨b, p, none⟩)) (s : Sr) (hc : w.rangeAt b p (srC s))
    (hk : wpList Tryz.prog ops Q rest (a.put o.dst (.agg (srC s).toArray)) w) : wpList Tryz.prog ops Q (o :: rest) a w :=
  wpList_step fun K hK => by
    simp only [hw, if_true]
    exact wp_load_mid 30 x ho b p hx (srC s) _ hc Tryz.underlying30 rfl (by rw [sr_size]; rfl) (hK _ _ hk)
theorem wpList_load_segq_g (hw : Region.wanted o (yielded ops a.tmps) = true) (x : Operand) (ho : o.op = .load 34 x) (b p : Nat) (hx : a.eval x = .pointer (some ⟨b, p, none⟩)) (s : Sg) (hc : w.rangeAt b p (segC s))
    (hk : wpList Tryz.prog ops Q rest (a.put o.dst (.agg (segC s).toArray)) w) : wpList Tryz.prog ops Q (o :: rest) a w :=
  wpList_step fun K hK => by
    simp only [hw, if_true]
    exact wp_load_mid 34 x ho b p hx (segC s) _ hc Tryz.underlying34 rfl (by rw [seg_size]; simp [segC_length]) (hK _ _ hk)
theorem wpList_load_msgq_g (hw : Region.wanted o (yielded ops a.tmps) = true) (x : Operand) (ho : o.op = .load 36 x) (b p : Nat) (hx : a.eval x = .pointer (some ⟨b, p, none⟩)) (s : Mg) (hc : w.rangeAt b p (msgC s))
    (hk : wpList Tryz.prog ops Q rest (a.put o.dst (.agg (msgC s).toArray)) w) : wpList Tryz.prog ops Q (o :: rest) a w :=
  wpList_step fun K hK => by
    simp only [hw, if_true]
    exact wp_load_mid 36 x ho b p hx (msgC s) _ hc Tryz.underlying36 rfl (by rw [msg_size]; simp [msgC_length]) (hK _ _ hk)
end

set_option maxRecDepth 100000 in
set_option maxHeartbeats 1600000 in
theorem pqsame_eq (a b : Pq) (w : World) (ha : a.ok w w.heap.size) (hb : b.ok w w.heap.size) (h : a.v = b.v) :
    Calls Tryz.prog 8 #[pqV a, pqV b] w fun e w' => e = .returned (.bool true) ∧ Below w.heap.size w w' := by
  unfold pqV
  obtain ⟨hh, rt, r, f, k, t, m, bA, bm, bc, bs⟩ := a
  obtain ⟨hh', rt', r', f', k', t', m', bA', bm', bc', bs'⟩ := b
  unfold Pq.v at h
  simp only [Pb.mk.injEq] at h
  obtain ⟨rfl, rfl, hr, rfl, rfl, ht, hm, rfl⟩ := h
  have HA := Lib.hid ha
  have HB := Lib.hid hb
  have HRV := Lib.hid hr
  have HTV := Lib.hid ht
  have HMV := Lib.hid hm
  clear ha hb hr ht hm
  go_enter Tryz.func8, Tryz.ntmps8
  go_wp2_with (first
    | ((with_reducible refine wpList_box_pq rfl (.tmp 0) rfl ⟨hh, rt, r, f, k, t, m, bA, bm, bc, bs⟩ rfl ?_); intro w1 HK1 hl1 hz1)
    | ((with_reducible refine wpList_box_pq rfl (.tmp 1) rfl ⟨hh, rt, r', f, k, t', m', bA', bm', bc', bs⟩ rfl ?_); intro w2 HK2 hl2 hz2; refine Hid.out ?_))
  refine Lib.hid ?_
  rw [hz1] at HK2
  replace HK1 := Lib.hid (HK1.below hl2 HK1.lt)
  replace HK2 := Lib.hid HK2
  have hL : Low w w2 := hl1.trans hl2
  clear hl1 hl2 hz1 hz2
  have LS := Lib.hid HA.out.h.s
  have LD := Lib.hid HA.out.h.d
  have LF := Lib.hid HA.out.fl
  dsimp only at LS LD LF
  have EH := eq_head hh hh LS.out LD.out LS.out LD.out
  simp only [eqH_refl] at EH
  have EF := eq_addr f f LF.out LF.out
  simp only [beq_self_eq_true] at EF
  have a37 := rangeAt_one (HK1.out.rt LS.out LD.out LF.out)
  have b37 := rangeAt_one (HK2.out.rt LS.out LD.out LF.out)
  have a60 := rangeAt_one (HK1.out.kd LS.out LD.out LF.out)
  have b60 := rangeAt_one (HK2.out.kd LS.out LD.out LF.out)
  dsimp only at a37 b37 a60 b60
  go_wp2_with (first
    | (with_reducible refine wpList_load_hd rfl (.tmp 5) rfl w.heap.size 0 rfl hh LS.out LD.out HK1.out.head ?_)
    | (with_reducible refine wpList_load_hd rfl (.tmp 7) rfl (w.heap.size + 1) 0 rfl hh LS.out LD.out HK2.out.head ?_)
    | (with_reducible refine wpList_load_at_g rfl (.tmp 18) rfl w.heap.size 44 rfl f LF.out (HK1.out.fin LS.out LD.out LF.out) ?_)
    | (with_reducible refine wpList_load_at_g rfl (.tmp 20) rfl (w.heap.size + 1) 44 rfl f LF.out (HK2.out.fin LS.out LD.out LF.out) ?_)
    | (with_reducible refine wpList_load_srq_g rfl (.tmp 32) rfl w.heap.size 38 rfl r (HK1.out.sr LS.out LD.out LF.out) ?_)
    | (with_reducible refine wpList_load_srq_g rfl (.tmp 34) rfl (w.heap.size + 1) 38 rfl r' (HK2.out.sr LS.out LD.out LF.out) ?_))
  refine (srsame_eq r r' w2 (HA.out.low hL).r (HB.out.low hL).r HRV.out).mono ?_
  rintro e w3 ⟨rfl, hB3⟩
  replace HK1 := Lib.hid (HK1.out.below hB3 HK1.out.lt)
  replace HK2 := Lib.hid (HK2.out.below hB3 HK2.out.lt)
  have hL3 := Low.trans hL hB3
  clear EH EF a37 b37 a60 b60 hL hB3
  go_wp2_with (first
    | (with_reducible refine wpList_load_segq_g rfl (.tmp 39) rfl w.heap.size 61 rfl t (HK1.out.tc LS.out LD.out LF.out) ?_)
    | (with_reducible refine wpList_load_segq_g rfl (.tmp 41) rfl (w.heap.size + 1) 61 rfl t' (HK2.out.tc LS.out LD.out LF.out) ?_))
  refine (tcsame_eq t t' w3 (HA.out.low hL3).t (HB.out.low hL3).t HTV.out).mono ?_
  rintro e w4 ⟨rfl, hB4⟩
  replace HK1 := Lib.hid (HK1.out.below hB4 HK1.out.lt)
  replace HK2 := Lib.hid (HK2.out.below hB4 HK2.out.lt)
  have hL4 := Low.trans hL3 hB4
  clear hL3 hB4
  go_wp2_with (first
    | (with_reducible refine wpList_load_msgq_g rfl (.tmp 46) rfl w.heap.size 71 rfl m (HK1.out.ms LS.out LD.out LF.out) ?_)
    | (with_reducible refine wpList_load_msgq_g rfl (.tmp 48) rfl (w.heap.size + 1) 71 rfl m' (HK2.out.ms LS.out LD.out LF.out) ?_))
  refine (icsame_eq m m' w4 (HA.out.low hL4).m (HB.out.low hL4).m HMV.out).mono ?_
  rintro e w5 ⟨rfl, hB5⟩
  replace HK1 := Lib.hid (HK1.out.below hB5 HK1.out.lt)
  replace HK2 := Lib.hid (HK2.out.below hB5 HK2.out.lt)
  have hL5 := Low.trans hL4 hB5
  clear hL4 hB5
  have a75 := rangeAt_one (HK1.out.bd LS.out LD.out LF.out)
  have b75 := rangeAt_one (HK2.out.bd LS.out LD.out LF.out)
  have cv1 := conv_bs (c := bc) (HA.out.low hL5).bs
  have cv2 := conv_bs (c := bc') (HB.out.low hL5).bs
  dsimp only at a75 b75 cv1 cv2
  generalize strOfNums bs = sx at *
  go_wp2_with fail
  go_ret
  exact ⟨rfl, hL5⟩
end Go.Proofs.YtdpbhhoabnmbpaaGreat
