/- detour.Header: the routing header of any bytes. Condition: at most 2^47 - 4096 bytes. -/
import Derived.Test.YtpaomhgdpncdoaaDtD
namespace Go.Proofs.Ytpaomhgdpncdoaa
open Go.RowKit
set_option linter.unusedVariables false

theorem wpList_alloc_e {ops : Array Oper} {rest : List Oper} {o : Oper} {a : Act} {w : World} {Q : Exit → Act → World → Prop} (hgd : o.guard = none) (ho : o.op = .alloc 27)
    (hk : ∀ w', BlkV w' 27 w.heap.size [.int .i64 0] → Low w w' → w'.heap.size = w.heap.size + 1 → wpList Try.prog ops Q rest (a.put o.dst (.pointer (some ⟨w.heap.size, 0, none⟩))) w') : wpList Try.prog ops Q (o :: rest) a w :=
  wpList_plain hgd fun K hK => by
    cases hq : Try.prog.info? 27 with
    | none => have := err_zero; simp [hq] at this
    | some i =>
      have hz' : i.zero = some (.int .i64 0) := by have := err_zero; simpa [hq] using this
      unfold Oper.wp execOp
      simp only [ho, Instr.alloc, zeroValue, typeInfo, run_program, hq, hz', newVar, newRow, Value.cells, Sem.run_bind, run_newObj, Result.andThen_ok, Sem.run_pure]
      exact hK _ _ (hk _ (BlkV.new w 27 [.int .i64 0]) (Low.alloc w _) (by simp))
theorem wpList_store_headB {ops : Array Oper} {rest : List Oper} {o : Oper} {a : Act} {w : World} {Q : Exit → Act → World → Prop} (hgd : o.guard = none) (x y : Operand) (ho : o.op = .store 41 x y) (g : Nat) (hx : a.eval x = .pointer (some ⟨g, 0, none⟩)) (h : Hd) (hy : a.eval y = .agg (headC h).toArray) (old : Hd) (hb : BlkH w g old)
    (hos : old.s.length = 16) (hod : old.d.length = 16) (hs : h.s.length = 16) (hd : h.d.length = 16)
    (hk : ∀ w', BlkH w' g h → Below g w w' → w'.heap.size = w.heap.size → (∀ k : Nat, k ≠ g → w'.heap[k]? = w.heap[k]?) → wpList Try.prog ops Q rest (a.put o.dst undef) w') : wpList Try.prog ops Q (o :: rest) a w :=
  wpList_plain hgd fun K hK => wp_store_head x y ho g hx h hy old hb hos hod hs hd fun w' a1 a2 a3 a4 => hK _ _ (hk w' a1 a2 a3 a4)
theorem wpList_store_srB {ops : Array Oper} {rest : List Oper} {o : Oper} {a : Act} {w : World} {Q : Exit → Act → World → Prop} (hgd : o.guard = none) (x y : Operand) (ho : o.op = .store 26 x y) (g : Nat) (hx : a.eval x = .pointer (some ⟨g, 0, none⟩)) (s : Sr) (hy : a.eval y = .agg (srC s).toArray) (old : Sr) (hb : BlkR w g old)
    (hk : ∀ w', BlkR w' g s → Below g w w' → w'.heap.size = w.heap.size → (∀ k : Nat, k ≠ g → w'.heap[k]? = w.heap[k]?) → wpList Try.prog ops Q rest (a.put o.dst undef) w') : wpList Try.prog ops Q (o :: rest) a w :=
  wpList_plain hgd fun K hK => wp_store_sr x y ho g hx s hy old hb fun w' a1 a2 a3 a4 => hK _ _ (hk w' a1 a2 a3 a4)
theorem BlkV.others {w w' : World} {t : TypeId} {g g' : Nat} {vs : List Value} (h : BlkV w t g vs) (hk : ∀ k : Nat, k ≠ g' → w'.heap[k]? = w.heap[k]?) (hg : g ≠ g') : BlkV w' t g vs := (hk g hg).trans h
theorem setCell_others (w : World) (p : Addr) (u : Value) : ∀ k : Nat, k ≠ p.block → (w.setCell p u).heap[k]? = w.heap[k]? := fun k hk => Below.heap_setCell w p u k hk
theorem BlkE.c {w : World} {g : Nat} {x : Int} (h : BlkV w 27 g [.int .i64 x]) : w.cell? ⟨g, 0, none⟩ = some (.int .i64 x) := h.cell 0
theorem BlkE.f {w : World} {g : Nat} {x : Int} (h : BlkV w 27 g [.int .i64 x]) : w.frozen? ⟨g, 0, none⟩ = false := h.frozen 0
theorem hdrE_whole {xs : List Int} (h : wholeE xs ≠ 0) : hdrE xs = wholeE xs := by unfold hdrE; rw [if_neg h]
theorem hdrE_kind {xs : List Int} (h : wholeE xs = 0) (h2 : (getL xs).nx ≠ 43) : hdrE xs = 7 := by unfold hdrE; rw [if_pos h, if_neg h2]
theorem hdrE_parse {xs : List Int} (h : wholeE xs = 0) (h2 : (getL xs).nx = 43) : hdrE xs = errR (xs.drop 40) := by unfold hdrE; rw [if_pos h, if_pos h2]

section
variable (A : Option Addr) (n c : Nat) (xs : List Int) (w : World) (hn : n ≤ 140737488355328) (hc : n ≤ c) (hc2 : c ≤ 9223372036854775807) (hb : Bs w w.heap.size A n xs)
include hn hc hc2 hb
theorem routed_all : Calls Try.prog 21 #[.slice A n c] w fun e w' =>
    (hdrE xs ≠ 0 → e = Thrown (hdrE xs)) ∧ (hdrE xs = 0 → ∃ s : Sr, e = .returned (.tuple #[headV (getL xs), srV s, .int .i64 (wideR (xs.drop 40))]) ∧ s.v = saysR (xs.drop 40) ∧ s.ok w' w'.heap.size ∧ s.from_ w.heap.size) ∧ Low w w' := by
  by_cases h1 : wholeE xs = 0
  · by_cases h2 : (getL xs).nx = 43
    · rw [hdrE_parse h1 h2]
      exact routed_parse A n c xs w hn hc hc2 hb _ rfl h1 h2
    · rw [hdrE_kind h1 h2]
      exact (routed_kind A n c xs w hn hc hc2 hb _ rfl h1 h2).mono fun e w' h => ⟨fun _ => h.1, fun h => absurd h (by decide), h.2⟩
  · rw [hdrE_whole h1]
    exact (routed_whole A n c xs w hn hc hc2 hb _ rfl h1).mono fun e w' h => ⟨fun _ => h.1, fun h => absurd h h1, h.2⟩

/-- a routing header, its length and an error are told -/
def GivesHd (w : World) (xs : List Int) (e : Ending) (w' : World) : Prop :=
  ∃ s : Sr, e = .returned (.tuple #[srV s, .int .i64 (hdrN xs), .int .i64 (hdrE xs)]) ∧ s.v = hdrR xs ∧ s.ok w' w'.heap.size ∧ s.from_ w.heap.size ∧ Low w w'
set_option maxHeartbeats 3200000 in
set_option maxRecDepth 100000 in
theorem header_any : Calls Try.prog 7 #[.slice A n c] w (GivesHd w xs) := by
  have hmf : ∀ (fn : Fn) (first cap : Array Value) (u : World), (Instr.makeFunc fn first cap).run Try.prog u = .ok (.func fn first cap) u := fun _ _ _ _ => rfl
  have HB := Lib.hid hb
  clear hb
  go_enter_defers Try.func7, Try.ntmps7
  go_wp2_with ((with_reducible refine wpList_alloc_sr rfl rfl ?_); intro w1 HZ hL1 hz1; refine Hid.out ?_)
  refine Lib.hid ?_
  have hg0 : w.heap.size < w1.heap.size := HZ.lt
  clear hz1
  replace HZ := Lib.hid HZ
  go_wp2_with ((with_reducible refine wpList_alloc_e rfl rfl ?_); intro w2 HE hL2 hz2; refine Hid.out ?_)
  refine Lib.hid ?_
  have hL : Low w w2 := Low.trans hL1 hL2
  replace HZ := Lib.hid (HZ.out.below hL2 HZ.out.lt)
  have hg1 : w1.heap.size < w2.heap.size := HE.lt
  replace HE := Lib.hid HE
  clear hz2 hL1 hL2
  generalize w1.heap.size = g1 at *
  go_wp2_with fail
  refine (routed_all A n c xs w2 hn hc hc2 (HB.out.below' hL hL.size)).mono ?_
  rintro e w3 ⟨h1, h2, hl3⟩
  replace hL := hL.trans hl3
  have hsz2 := hl3.size
  replace HZ := Lib.hid (HZ.out.below hl3 HZ.out.lt)
  replace HE := Lib.hid (HE.out.below hl3 HE.out.lt)
  have HN := Lib.hid (show hdrN xs = if hdrE xs = 0 then wideR (xs.drop 40) else 0 from rfl)
  have HR := Lib.hid (show hdrR xs = if hdrE xs = 0 then saysR (xs.drop 40) else zeroRb from rfl)
  obtain ⟨er, her⟩ : ∃ er, er = hdrE xs := ⟨_, rfl⟩
  rw [← her] at h1 h2 HN HR
  have HQ := Lib.hid her
  clear hl3 her
  by_cases he : er = 0
  · obtain ⟨s, rfl, hv, hk, hf⟩ := h2 he
    have HV := Lib.hid hv
    have HK := Lib.hid hk
    have HF := Lib.hid hf
    clear h1 h2 hv hk hf
    unfold headV srV
    go_wp2_with (refine wpList_store_srB rfl (.tmp 2) (.tmp 10) rfl w.heap.size rfl s rfl zeroSr HZ.out ?_; intro w4 HG4 hb4 hz4 ho4; refine Hid.out ?_)
    refine Lib.hid ?_
    have HE4 := Lib.hid (HE.out.others ho4 (by omega))
    have HK4 : Hid (s.ok w4 w4.heap.size) := Lib.hid (by rw [hz4]; exact HK.out.others HF.out fun k hk => ho4 k (by omega))
    have HL4 : Hid (Low w w4) := Lib.hid (Below.trans hL hb4)
    replace HG4 := Lib.hid HG4
    clear HZ HE HK hL hb4 ho4
    go_wp2_with (first | (with_reducible refine wpList_load_sr rfl (.tmp 2) rfl w.heap.size rfl s HG4.out ?_) | (refine wpList_store_srB rfl (.tmp 2) (.tmp 12) rfl w.heap.size rfl s rfl s HG4.out ?_; intro w5 HG5 hb5 hz5 ho5; refine Hid.out ?_))
    refine Lib.hid ?_
    have HE5 := HE4.out.others ho5 (by omega)
    have HK5 : Hid (s.ok w5 w5.heap.size) := Lib.hid (by rw [hz5]; exact HK4.out.others HF.out fun k hk => ho5 k (by omega))
    have HL5 : Hid (Low w w5) := Lib.hid (Below.trans HL4.out hb5)
    replace HG5 := Lib.hid HG5
    clear HG4 HE4 HK4 hb5 ho5
    have cE := BlkE.c HE5
    have fE := BlkE.f HE5
    have HE6 := blkE HE5 0
    have ho6 := setCell_others w5 ⟨g1, 0, none⟩ (.int .i64 0)
    have hz6 : (w5.setCell ⟨g1, 0, none⟩ (.int .i64 0)).heap.size = w5.heap.size := by simp
    have HK6 : Hid (s.ok (w5.setCell ⟨g1, 0, none⟩ (.int .i64 0)) (w5.setCell ⟨g1, 0, none⟩ (.int .i64 0)).heap.size) := Lib.hid (by rw [hz6]; exact HK5.out.others HF.out fun k hk => ho6 k (by show k ≠ g1; omega))
    have HG6 : BlkR (w5.setCell ⟨g1, 0, none⟩ (.int .i64 0)) w.heap.size s := HG5.out.others ho6 (by show w.heap.size ≠ g1; omega)
    have HL6 : Hid (Low w (w5.setCell ⟨g1, 0, none⟩ (.int .i64 0))) := Lib.hid (HL5.out.setCell (p := ⟨g1, 0, none⟩) (by show w.heap.size ≤ g1; omega) _)
    go_wp2_with fail
    clear cE fE HE5 HK5 HG5 ho6 HL5 hz6
    generalize w5.setCell ⟨g1, 0, none⟩ (.int .i64 0) = w6 at *
    have ho7 := setCell_others w6 ⟨g1, 0, none⟩ (.int .i64 0)
    have hz7 : (w6.setCell ⟨g1, 0, none⟩ (.int .i64 0)).heap.size = w6.heap.size := by simp
    refine door_ret (by simp [go_sem]) (hcatch_idle ⟨g1, 0, none⟩ _ w6 (BlkE.c HE6) (BlkE.f HE6)) _ (results_cell_tmp_cell Try.results7 _ _ w.heap.size g1 s _ 0 rfl (HG6.others ho7 (by show w.heap.size ≠ g1; omega)) rfl rfl (BlkE.c (blkE HE6 0))) ?_
    refine ⟨s, ?_, ?_, ?_, ⟨HF.out.sg.less (by omega), HF.out.tl.lessR (by omega)⟩, HL6.out.setCell (p := ⟨g1, 0, none⟩) (by show w.heap.size ≤ g1; omega) _⟩
    · rw [HN.out, if_pos he, ← HQ.out, he]; rfl
    · rw [HR.out, if_pos he]; exact HV.out
    · rw [hz7]; exact HK6.out.others HF.out fun k hk => ho7 k (by show k ≠ g1; omega)
  · have h3 := h1 he
    subst h3
    clear h1 h2
    unfold Thrown
    go_wp2_with fail
    have ho7 := setCell_others w3 ⟨g1, 0, none⟩ (.int .i64 er)
    refine door_panic er (by simp [go_sem]) (hcatch_panic ⟨g1, 0, none⟩ _ er [] w3 (BlkE.c HE.out) (BlkE.f HE.out)) _ (results_cell_tmp_cell Try.results7 _ _ w.heap.size g1 zeroSr _ er rfl (HZ.out.others ho7 (by show w.heap.size ≠ g1; omega)) rfl rfl (BlkE.c (blkE HE.out er))) ?_
    refine ⟨zeroSr, ?_, ?_, zeroSr_ok _ _, ⟨AFrom.nil _ _, OFrom.nil _ _⟩, hL.setCell (p := ⟨g1, 0, none⟩) (by show w.heap.size ≤ g1; omega) _⟩
    · rw [HN.out, if_neg he, ← HQ.out]; rfl
    · rw [HR.out, if_neg he]; rfl
end
end Go.Proofs.Ytpaomhgdpncdoaa
