/- topt.laid: the function that it hands back goes over the bytes of options, part by part. Condition: at most 2^47 options. -/
import Derived.Test.YtkbgfddicpnbmaaTpC
import Derived.Test.YtkbgfddicpnbmaaRf
import Derived.Test.YtkbgfddicpnbmaaVals
namespace Go.Proofs.Ytkbgfddicpnbmaa
open Go.RowKit
set_option linter.unusedVariables false
attribute [local go_sem] Oper.semAt_some

/-- append of bytes onto a row of the call's own, inside a fence -/
theorem wpListIn_append_bs {F : Fence} {k : Nat} {P : Program} {w : World} {ops : Array Oper} {rest : List Oper} {o : Oper} {a : Act} {Q : Exit → Act → World → Prop} (hgd : o.guard = none) (s x : Operand) (t : TypeId)
    (ho : o.op = .call { callee := .builtin .append, args := #[s, x], argTypes := #[t, t] })
    (base : Nat) (e : TypeId) (i : TypeInfo) (ht : P.underlying t = some (.slice e)) (hi : P.info? e = some i) (hz : i.zero = some (.int .u8 0)) (hsize : i.size = 1) (hby : i.bytes = 1)
    (A0 : Option Addr) (n c0 : Nat) (xs : List Int) (hs : a.eval s = .slice A0 n c0) (hown : OwnB e w base A0 n c0 xs)
    (A : Option Addr) (m c B : Nat) (ys : List Int) (hx : a.eval x = .slice A m c) (hb : Bs w B A m ys) (hn : n + m ≤ 140737488355328) (hbase : base ≤ w.heap.size)
    (h : ∀ A' c' w', OwnB e w' base A' (n + m) c' (xs ++ ys) → w.grownBy w' (Value.slice A0 n c0).ownBlock → ((Value.slice A' (n + m) c').ownBlock = (Value.slice A0 n c0).ownBlock ∨ (Value.slice A' (n + m) c').ownBlock = some w.heap.size) →
      wpListIn F k P ops Q rest (a.put o.dst (.slice A' (n + m) c')) w') : wpListIn F k P ops Q (o :: rest) a w := by
  refine wpListIn_plain hgd fun K hK => ?_
  obtain ⟨A', c', w', hrun, h2, h3, h4⟩ := run_append_bs (P := P) w base t o.type e i ht hi hz hsize hby A0 n c0 xs hown A m c B ys hb hn hbase
  unfold Oper.wpIn
  refine ⟨?_, ?_⟩
  · simp [Oper.about, ho, resolve, Target.leads, Sem.run_pure]
  · rw [Oper.semAt_plain F _ _ (by rw [ho]; intro c hc; cases hc)]
    simp only [execOp, ho, resolve, invoke, builtin, Sem.run_bind, Sem.run_pure, Result.andThen_ok, List.map_toArray, List.map_cons, List.map_nil, hs, hx, hrun]
    exact hK _ _ (h A' c' w' h2 h3 h4)

/-- the parts: what stands ahead of an option's data, then its data -/
def partsO (l : List Ob) : List (List Int) := l.flatMap fun o => [headO o, o.2]
theorem partsO_length : ∀ l : List Ob, (partsO l).length = l.length * 2
  | [] => rfl
  | o :: l => by
    have := partsO_length l
    unfold partsO at this ⊢
    simp only [List.flatMap_cons, List.cons_append, List.nil_append, List.length_cons]
    omega
theorem partsO_get : ∀ (l : List Ob) (i : Nat), i < l.length → (partsO l).getD (i * 2) [] = headO (l.getD i zeroB) ∧ (partsO l).getD (i * 2 + 1) [] = (l.getD i zeroB).2
  | [], i, h => by simp at h
  | o :: l, 0, _ => ⟨rfl, rfl⟩
  | o :: l, i + 1, h => by
    have ih := partsO_get l i (by simpa using h)
    have e : partsO (o :: l) = headO o :: o.2 :: partsO l := rfl
    rw [e, show (i + 1) * 2 = i * 2 + 1 + 1 by omega]
    simp only [List.getD_cons_succ]
    exact ih
theorem partsO_flat (l : List Ob) : (partsO l).flatten = flatO l := by
  induction l with
  | nil => rfl
  | cons o l ih =>
    have e : partsO (o :: l) = headO o :: o.2 :: partsO l := rfl
    rw [e, List.flatten_cons, List.flatten_cons, ih]
    simp [flatO]
theorem getD_v (os : List Od) (i : Nat) : (os.map Od.v).getD i zeroB = (os.getD i zeroO).v := by
  simp only [List.getD, List.getElem?_map]
  cases os[i]? <;> rfl

set_option maxHeartbeats 400000 in
theorem laid_any (A : Option Addr) (n c : Nat) (w : World) : Calls Try.prog 52 #[.slice A n c] w fun e w' => e = .returned (.func (.func 74) #[] #[.pointer (some ⟨w.heap.size, 0, none⟩)]) ∧ w' = w.alloc (.cells #[.slice A n c] 23) := by
  go_enter Try.func52, Try.ntmps52
  go_wp2_with fail
  go_ret
  exact ⟨rfl, rfl⟩

set_option maxRecDepth 100000 in
set_option maxHeartbeats 2000000 in
theorem laid1_any (k : Nat) (hk0 : 1 ≤ k) (A : Option Addr) (n c : Nat) (os : List Od) (Bn n0 : Nat) (w : World) (hn : n ≤ 140737488355328) (hBn : w.cell? ⟨Bn, 0, none⟩ = some (.slice A n c)) (hlt : n0 ≤ w.heap.size) (ho : Os w n0 A n os) :
    SeqParts k Try.prog 74 #[.pointer (some ⟨Bn, 0, none⟩)] 85 n0 (partsO (os.map Od.v)) w := by
  intro l J Jx W hW hJ hY h0
  obtain ⟨i0, hi, hz0, hz1, hz2⟩ := info_parts info5
  replace hBn : W.cell? ⟨Bn, 0, none⟩ = some (.slice A n c) := (Below.cell hW (p := ⟨Bn, 0, none⟩) (World.block_lt_of_cell? _ _ hBn)).trans hBn
  replace ho : Os W n0 A n os := ho.below (hW.mono hlt)
  replace hlt : n0 ≤ W.heap.size := Nat.le_trans hlt hW.size
  have HPL := Lib.hid (partsO_length (os.map Od.v))
  have hlen := ho.len
  clear hW
  refine callsIn_of_wp Try.func74 rfl trivial ?_ rfl
  simp only [Try.ntmps74, List.size_toArray, List.length_cons, List.length_nil, Nat.reduceAdd, Nat.reduceSub, Array.replicate_succ, Array.replicate_zero, List.push_toArray, List.append_toArray, List.nil_append, List.cons_append]
  gi_wp2
  gi_loopw [8] (fun i wr => ∃ m : Nat, m ≤ n ∧ i = .int .i64 m ∧ J (m * 2) wr ∧ Below n0 W wr) (fun i _ => n - (intOf i).toNat)
  case atStart => exact ⟨0, Nat.zero_le _, rfl, h0, Below.refl _ _⟩
  case round =>
    obtain ⟨m, hm, rfl, hj, hB⟩ := hrel
    by_cases hmn : m < n
    · obtain ⟨b, p, rfl, hbl, hc⟩ := ho.mem (by omega)
      obtain ⟨q1, q2⟩ := hc m hmn
      have hok := ho.at_ hmn
      obtain ⟨hp1, hp2⟩ := partsO_get (os.map Od.v) m (by simp; omega)
      rw [getD_v] at hp1 hp2
      obtain ⟨o, hoo⟩ : ∃ o, o = os.getD m zeroO := ⟨_, rfl⟩
      rw [← hoo] at q1 q2 hok hp1 hp2
      have c1 := (hB.cell (p := ⟨b, p + m * 2, none⟩) hbl).trans q1
      have c2 := (hB.cell (p := ⟨b, p + m * 2 + 1, none⟩) hbl).trans q2
      have hokr := hok.keep (w' := wr) fun x hx => hB.cell hx
      clear q1 q2 hok hc hoo
      obtain ⟨kk, DA, dn, dc, d⟩ := o
      obtain ⟨hk, hdn, hbs⟩ := hokr
      dsimp only [Od.v] at hp1 hp2 c1 c2 hk hdn hbs
      have hl1 : m * 2 < (partsO (os.map Od.v)).length := by rw [HPL.out]; simp; omega
      have hl2 : m * 2 + 1 < (partsO (os.map Od.v)).length := by rw [HPL.out]; simp; omega
      have HO := Lib.hid ho
      clear ho
      by_cases hk1 : kk = 1
      · subst hk1
        have hw1 := (Low.alloc wr (.cells #[.int .i64 1, .slice DA dn dc] 85)).trans (Low.alloc _ (.cells #[.int .u8 1] 5))
        have hblk : Blk ((wr.alloc (.cells #[.int .i64 1, .slice DA dn dc] 85)).alloc (.cells #[.int .u8 1] 5)) 5 (wr.heap.size + 1) [1] := by
          have := Blk.new (wr.alloc (.cells #[.int .i64 1, .slice DA dn dc] 85)) 5 [1]
          rwa [World.size_alloc] at this
        have hob : ((wr.alloc (.cells #[.int .i64 1, .slice DA dn dc] 85)).alloc (.cells #[.int .u8 1] 5)).heap[wr.heap.size]? = some (.cells #[.int .i64 1, .slice DA dn dc] 85 (0, 0)) :=
          (Below.heap_alloc _ _ _ (by simp)).trans (heap_alloc_new wr _)
        obtain ⟨fn, tmps, assign, body, hy, hR⟩ := hY (m * 2) (some ⟨wr.heap.size + 1, 0, none⟩) 1 1 _ (hJ _ _ _ hj hw1) hl1 (by omega) (by rw [hp1]; exact hblk.bs (.cons (by omega) (by omega) .nil) hblk.lt rfl)
        have HW := Lib.hid hw1
        clear hblk hw1
        gi_wp2
        refine hR.mono ?_
        rintro e W3 (⟨rfl, hj3, hb3, ht3⟩ | ⟨rfl, hx3⟩)
        · have hb4 : Below n0 wr W3 := (HW.out.mono (Nat.le_trans hlt hB.size)).trans hb3
          have hob3 := ht3 _ _ _ hob
          have hc3 : W3.cell? ⟨wr.heap.size, 1, none⟩ = some (.slice DA dn dc) := by rw [cell_of_row W3 wr.heap.size 1 _ _ _ hob3]; rfl
          obtain ⟨fn2, tmps2, assign2, body2, hy2, hR2⟩ := hY (m * 2 + 1) DA dn dc _ hj3 hl2 hdn (by rw [hp2]; exact (hbs.below hb4).more (Nat.le_trans (Nat.le_trans hlt hB.size) hb4.size))
          have HB3 := Lib.hid hb4
          clear hb3 ht3 hob hob3 hb4 hR hy
          gi_wp2
          refine hR2.mono ?_
          rintro e W5 (⟨rfl, hj5, hb5, ht5⟩ | ⟨rfl, hx5⟩)
          · have hB5 := (hB.trans HB3.out).trans hb5
            gi_wp2
            go_roundw
            case rel => exact ⟨m + 1, by omega, by go_num, by rw [show (m + 1) * 2 = m * 2 + 1 + 1 by omega]; exact hj5, hB5⟩
            case measure => simp [intOf]; omega
          · gi_wp2
            refine bodyPost_ret (results_none rfl _ _ _) rfl ?_
            exact ⟨⟨_, rfl⟩, .inr hx5⟩
        · gi_wp2
          refine ⟨fun _ h => (by cases h), ?_⟩
          gi_wp2
          refine bodyPost_ret (results_none rfl _ _ _) rfl ?_
          exact ⟨⟨_, rfl⟩, .inr hx3⟩
      · have e1 : headO (kk, d) = [kk % 256, (2 + (dn : Int)) % 256] := by unfold headO; rw [if_neg hk1, hbs.len]
        have hw1 := (Low.alloc wr (.cells #[.int .i64 kk, .slice DA dn dc] 85)).trans ((Low.alloc _ (.cells #[.int .u8 (kk % 256)] 5)).trans (Low.alloc _ (.cells #[.int .u8 ((2 + (dn : Int)) % 256)] 5)))
        have hob : (((wr.alloc (.cells #[.int .i64 kk, .slice DA dn dc] 85)).alloc (.cells #[.int .u8 (kk % 256)] 5)).alloc (.cells #[.int .u8 ((2 + (dn : Int)) % 256)] 5)).heap[wr.heap.size]? = some (.cells #[.int .i64 kk, .slice DA dn dc] 85 (0, 0)) :=
          (Below.heap_alloc _ _ _ (by simp; omega)).trans ((Below.heap_alloc _ _ _ (by simp)).trans (heap_alloc_new wr _))
        have hown : OwnB 5 (((wr.alloc (.cells #[.int .i64 kk, .slice DA dn dc] 85)).alloc (.cells #[.int .u8 (kk % 256)] 5)).alloc (.cells #[.int .u8 ((2 + (dn : Int)) % 256)] 5)) (wr.heap.size + 1) (some ⟨wr.heap.size + 1, 0, none⟩) 1 1 [kk % 256] := by
          have := (Blk.new (wr.alloc (.cells #[.int .i64 kk, .slice DA dn dc] 85)) 5 [kk % 256]).alloc (.cells #[.int .u8 ((2 + (dn : Int)) % 256)] 5)
          rw [World.size_alloc] at this
          exact OwnB.ofBlk this (.cons (by omega) (by omega) .nil) (Nat.le_refl _) rfl (by simp [maxLen])
        have hsrc : Bs (((wr.alloc (.cells #[.int .i64 kk, .slice DA dn dc] 85)).alloc (.cells #[.int .u8 (kk % 256)] 5)).alloc (.cells #[.int .u8 ((2 + (dn : Int)) % 256)] 5)) (wr.heap.size + 3) (some ⟨wr.heap.size + 2, 0, none⟩) 1 [(2 + (dn : Int)) % 256] := by
          have := Blk.new ((wr.alloc (.cells #[.int .i64 kk, .slice DA dn dc] 85)).alloc (.cells #[.int .u8 (kk % 256)] 5)) 5 [(2 + (dn : Int)) % 256]
          simp only [World.size_alloc] at this
          exact this.bs (.cons (by omega) (by omega) .nil) (by omega) rfl
        have HW := Lib.hid hw1
        have HOB := Lib.hid hob
        clear hw1 hob
        gi_wp2_with (gi_at_builtin; refine wpListIn_append_bs rfl _ _ 24 rfl (wr.heap.size + 1) 5 i0 Try.underlying24 hi hz0 hz1 hz2 _ 1 1 [kk % 256] rfl hown _ 1 1 (wr.heap.size + 3) [(2 + (dn : Int)) % 256] rfl hsrc (by omega) (by simp only [World.size_alloc]; omega) ?_; intro A' c' w1 hown1 hgr1 hob1; refine Hid.out ?_)
        refine Lib.hid ?_
        have hgr : Low wr w1 := Below.grown HW.out hgr1 (by simp; omega) fun x e => by
          have e2 : wr.heap.size + 1 = x := by simpa [Value.ownBlock] using e
          omega
        have hob2 : w1.heap[wr.heap.size]? = some (.cells #[.int .i64 kk, .slice DA dn dc] 85 (0, 0)) := (hgr1.block wr.heap.size (by simp; omega) (by simp [Value.ownBlock])).trans HOB.out
        have hc1 : w1.cell? ⟨wr.heap.size, 1, none⟩ = some (.slice DA dn dc) := by rw [cell_of_row w1 wr.heap.size 1 _ _ _ hob2]; rfl
        obtain ⟨fn, tmps, assign, body, hy, hR⟩ := hY (m * 2) A' 2 c' _ (hJ _ _ _ hj hgr) hl1 (by omega) (by rw [hp1, e1]; exact hown1.bs (Nat.le_refl _))
        clear hown hsrc hown1 hgr1 hob1
        gi_wp2
        refine hR.mono ?_
        rintro e W3 (⟨rfl, hj3, hb3, ht3⟩ | ⟨rfl, hx3⟩)
        · have hb4 : Below n0 wr W3 := (hgr.mono (Nat.le_trans hlt hB.size)).trans hb3
          have hob3 := ht3 _ _ _ hob2
          have hc3 : W3.cell? ⟨wr.heap.size, 1, none⟩ = some (.slice DA dn dc) := by rw [cell_of_row W3 wr.heap.size 1 _ _ _ hob3]; rfl
          obtain ⟨fn2, tmps2, assign2, body2, hy2, hR2⟩ := hY (m * 2 + 1) DA dn dc _ hj3 hl2 hdn (by rw [hp2]; exact (hbs.below hb4).more (Nat.le_trans (Nat.le_trans hlt hB.size) hb4.size))
          have HB3 := Lib.hid hb4
          clear hb3 ht3 hob2 hob3 hb4 hR hy hc1
          gi_wp2
          refine hR2.mono ?_
          rintro e W5 (⟨rfl, hj5, hb5, ht5⟩ | ⟨rfl, hx5⟩)
          · have hB5 := (hB.trans HB3.out).trans hb5
            gi_wp2
            go_roundw
            case rel => exact ⟨m + 1, by omega, by go_num, by rw [show (m + 1) * 2 = m * 2 + 1 + 1 by omega]; exact hj5, hB5⟩
            case measure => simp [intOf]; omega
          · gi_wp2
            refine bodyPost_ret (results_none rfl _ _ _) rfl ?_
            exact ⟨⟨_, rfl⟩, .inr hx5⟩
        · gi_wp2
          refine ⟨fun _ h => (by cases h), ?_⟩
          gi_wp2
          refine bodyPost_ret (results_none rfl _ _ _) rfl ?_
          exact ⟨⟨_, rfl⟩, .inr hx3⟩
    · obtain rfl : m = n := by omega
      gi_wp2
      go_end0
      exact ⟨⟨_, rfl⟩, .inl (by rw [HPL.out]; simpa [hlen] using hj)⟩
end Go.Proofs.Ytkbgfddicpnbmaa
