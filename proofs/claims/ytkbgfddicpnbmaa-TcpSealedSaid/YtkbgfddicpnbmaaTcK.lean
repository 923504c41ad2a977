/- What tcp.Parse answers: the segment of bytes. Condition: at most 2^47 bytes. -/
import Derived.Test.YtkbgfddicpnbmaaTcJ
import Derived.Test.YtkbgfddicpnbmaaTpJ
namespace Go.Proofs.Ytkbgfddicpnbmaa
open Go.RowKit
set_option linter.unusedVariables false

/-- a segment and a number are handed back -/
def GivesS (w : World) (r : Sb × Int) (e : Ending) (w' : World) : Prop :=
  ∃ t : Sg, e = .returned (.tuple #[segV t, .int .i64 r.2]) ∧ t.v = r.1 ∧ t.ok w' w'.heap.size ∧ Below w.heap.size w w'
theorem GivesS.of {w w' : World} {r : Sb × Int} {x : Sb} {k : Int} {t : Sg} (hr : r = (x, k)) (ht : t.v = x) (hk : t.ok w' w'.heap.size) (hB : Below w.heap.size w w') : GivesS w r (.returned (.tuple #[segV t, .int .i64 k])) w' := by
  subst hr
  exact ⟨t, rfl, ht, hk, hB⟩
theorem ret_seg {fn : Func} {p q : Tmp} {R : Ending → World → Prop} {tmps : Array Value} {df : List Deferred} {w : World} {g : Nat} {t : Sg} {er : Int} (hfn : fn.results = #[.cell p 26, .tmp q]) (hp : tmps.getD p undef = .pointer (some ⟨g, 0, none⟩)) (hq : tmps.getD q undef = .int .i64 er)
    (hb : BlkS w g t) (hR : R (.returned (.tuple #[segV t, .int .i64 er])) w) (hd : df = []) : bodyPost Try.prog fn R .ret ⟨tmps, df⟩ w :=
  bodyPost_ret (results_cell_tmp hfn tmps w g _ _ _ _ _ hp hq hb Try.underlying26 rfl (by rw [seg_size]; rfl)) hd hR

theorem Bs.mid {w : World} {B b o n s m : Nat} {xs : List Int} (h : Bs w B (some ⟨b, o, none⟩) n xs) (hs : s ≤ m) (hm : m ≤ n) : Bs w B (some ⟨b, o + s, none⟩) (m - s) ((xs.take m).drop s) :=
  ⟨by rw [List.length_drop, List.length_take, h.len]; omega, (h.all.take m).drop s, fun hn => by
    obtain ⟨b', o', e, hb, hc⟩ := h.mem (by omega)
    injection e with e
    injection e with e1 e2 _
    subst e1 e2
    refine ⟨_, _, rfl, hb, fun i hi => ?_⟩
    have := hc (s + i) (by omega)
    rw [← Nat.add_assoc] at this
    rw [this]
    have hlt : s + i < m := by omega
    simp [List.getD, List.getElem?_drop, hlt]⟩

/-- a slice is cut, whatever its room is -/
theorem run_mid (b o n c m : Nat) (hn : n ≤ 140737488355328) (h1 : 20 ≤ m) (h2 : m ≤ n) (hc : n ≤ c) (hc2 : c ≤ 9223372036854775807) :
    ∃ A', (∀ u, (Instr.sliceAt 24 (.slice (some ⟨b, o, none⟩) n c) (some (.int .i64 20)) (some (.int .i64 (m : Int))) none).run Try.prog u = .ok (.slice A' (m - 20) (c - 20)) u) ∧ (0 < m - 20 → A' = some ⟨b, o + 20, none⟩) := by
  have i1 : (20 : Int) ≤ m := by omega
  have i2 : (m : Int) ≤ c := by omega
  have i3 : (20 : Int) ≤ c := by omega
  by_cases h : c = 20
  · obtain rfl : m = 20 := by omega
    subst h
    refine ⟨some ⟨b, o, none⟩, fun u => by go_simp, fun h => by omega⟩
  · refine ⟨some ⟨b, o + 20, none⟩, fun u => by go_simp, fun _ => rfl⟩
theorem run_behind (b o n c m : Nat) (hn : n ≤ 140737488355328) (h2 : m ≤ n) (hc : n ≤ c) (hc2 : c ≤ 9223372036854775807) :
    ∃ A', (∀ u, (Instr.sliceAt 24 (.slice (some ⟨b, o, none⟩) n c) (some (.int .i64 (m : Int))) none none).run Try.prog u = .ok (.slice A' (n - m) (c - m)) u) ∧ (0 < n - m → A' = some ⟨b, o + m, none⟩) := by
  by_cases h : c = m
  · subst h
    refine ⟨some ⟨b, o, none⟩, fun u => by go_simp, fun h => by omega⟩
  · refine ⟨some ⟨b, o + m, none⟩, fun u => by go_simp, fun _ => rfl⟩
theorem exec_slice {f : Operand → Value} {dd : Option Tmp} {t : TypeId} {x : Operand} {lo hi mx : Option Operand} {ty : TypeId} {pos : String} {gd : Option (Nat × Bool)} {w : World} {v : Value}
    (h : (Instr.sliceAt t (f x) (lo.map f) (hi.map f) (mx.map f)).run Try.prog w = .ok v w) : (execOp f ⟨dd, .slice t x lo hi mx, ty, pos, #[], gd⟩).run Try.prog w = .ok (.value v) w := by
  unfold execOp
  simp only [Sem.run_bind, h, Result.andThen_ok, Sem.run_pure]
theorem wpList_slice {ops : Array Oper} {rest : List Oper} {o : Oper} {a : Act} {w : World} {Q : Exit → Act → World → Prop} (hgd : o.guard = none) (t : TypeId) (x : Operand) (lo hi mx : Option Operand) (ho : o.op = .slice t x lo hi mx) (v : Value)
    (h : (Instr.sliceAt t (a.eval x) (lo.map a.eval) (hi.map a.eval) (mx.map a.eval)).run Try.prog w = .ok v w) (hk : wpList Try.prog ops Q rest (a.put o.dst v) w) : wpList Try.prog ops Q (o :: rest) a w :=
  wpList_plain hgd fun K hK => by
    unfold Oper.wp execOp
    simp only [ho, Sem.run_bind, h, Result.andThen_ok, Sem.run_pure]
    exact hK _ _ hk
theorem Bs.at_mid {w : World} {B n m : Nat} {A' : Option Addr} {b o s : Nat} {xs : List Int} (h : Bs w B (some ⟨b, o, none⟩) n xs) (hs : s ≤ m) (hm : m ≤ n) (hA : 0 < m - s → A' = some ⟨b, o + s, none⟩) : Bs w B A' (m - s) ((xs.take m).drop s) := by
  have h1 := h.mid hs hm
  rcases Nat.eq_zero_or_pos (m - s) with h0 | h0
  · rw [h0] at h1 ⊢
    exact ⟨h1.len, h1.all, fun h => by omega⟩
  · rw [hA h0]; exact h1

theorem Bs.at_behind {w : World} {B n : Nat} {A' : Option Addr} {b o s : Nat} {xs : List Int} (h : Bs w B (some ⟨b, o, none⟩) n xs) (hs : s ≤ n) (hA : 0 < n - s → A' = some ⟨b, o + s, none⟩) : Bs w B A' (n - s) (xs.drop s) := by
  have h1 := h.at_mid (m := n) hs (Nat.le_refl _) hA
  rw [List.take_of_length_le (by rw [h.len]; omega)] at h1
  exact h1

theorem aheadS_ok {xs : List Int} (hall : AllB xs) (h : (aheadS xs).2 = 0) : 20 ≤ (aheadS xs).1 ∧ (aheadS xs).1 ≤ 60 ∧ (aheadS xs).1 ≤ xs.length := by
  have hr := hall.getD 12
  unfold aheadS at h ⊢
  split
  · rename_i h1; rw [if_pos h1] at h; simp at h
  · rename_i h1
    rw [if_neg h1] at h
    split
    · rename_i h2; rw [if_pos h2] at h; simp at h
    · rename_i h2
      rw [if_neg h2] at h
      split
      · rename_i h3; rw [if_pos h3] at h; simp at h
      · dsimp only
        omega
theorem aheadS_err (xs : List Int) : 0 ≤ (aheadS xs).2 ∧ (aheadS xs).2 ≤ 5 := by
  unfold aheadS
  repeat' split
  all_goals simp

theorem tcnum2 {xs : List Int} (h : AllB xs) (p : Nat) : 0 ≤ num2 xs p ∧ num2 xs p < 65536 := by
  have h1 := h.getD p
  have h2 := h.getD (p + 1)
  unfold num2
  omega
theorem tcnum4 {xs : List Int} (h : AllB xs) (p : Nat) : 0 ≤ num4 xs p ∧ num4 xs p < 4294967296 := by
  have h1 := h.getD p
  have h2 := h.getD (p + 1)
  have h3 := h.getD (p + 2)
  have h4 := h.getD (p + 3)
  unfold num4
  omega
/-- what lies from block lo on is as it was, where nothing from there on has changed -/
theorem Os.upper {w w' : World} {lo B n : Nat} {A : Option Addr} {os : List Od} (h : Os w B A n os) (hf : OFrom lo A n os) (hk : ∀ p : Addr, lo ≤ p.block → p.block < B → w'.cell? p = w.cell? p) : Os w' B A n os :=
  ⟨h.len, fun o ho => ⟨(h.all o ho).1, (h.all o ho).2.1, (h.all o ho).2.2.len, (h.all o ho).2.2.all, fun hn => by
    obtain ⟨b, p, e, hb, hc⟩ := (h.all o ho).2.2.mem hn
    obtain ⟨b', p', e', hl⟩ := hf.2 o ho hn
    rw [e] at e'
    injection e' with e'
    injection e' with e1 e2 _
    subst e1 e2
    exact ⟨b, p, e, hb, fun i hi => (hk _ hl hb).trans (hc i hi)⟩⟩, fun hn => by
    obtain ⟨b, p, e, hb, hc⟩ := h.mem hn
    obtain ⟨b', p', e', hl⟩ := hf.1 hn
    rw [e] at e'
    injection e' with e'
    injection e' with e1 e2 _
    subst e1 e2
    exact ⟨b, p, e, hb, fun i hi => ⟨(hk _ hl hb).trans (hc i hi).1, (hk _ hl hb).trans (hc i hi).2⟩⟩⟩
/-- a whole segment is stored: no other block changes -/
theorem wpList_store_seg2 {ops : Array Oper} {rest : List Oper} {o : Oper} {a : Act} {w : World} {Q : Exit → Act → World → Prop} (hgd : o.guard = none) (x y : Operand) (ho : o.op = .store 26 x y) (g : Nat) (hx : a.eval x = .pointer (some ⟨g, 0, none⟩)) (t : Sg) (hy : a.eval y = .agg (segC t).toArray) (old : Sg) (hb : BlkS w g old)
    (hk : ∀ w', BlkS w' g t → Below g w w' → (∀ p : Addr, p.block ≠ g → w'.cell? p = w.cell? p) → w'.heap.size = w.heap.size → wpList Try.prog ops Q rest (a.put o.dst undef) w') : wpList Try.prog ops Q (o :: rest) a w :=
  wpList_store_row hgd 26 x y ho g _ hx hy _ _ hb (by rw [seg_size]; rfl) rfl (segC_one t) (hk _ (BlkV.setRow hb _) (low_setRow _ _ _ (Nat.le_refl _)) (fun p hp => World.cell?_of_block (by simp [World.setRow, Array.getElem?_modify, Ne.symm hp])) (by simp))
/-- the segment when k of its parts are read -/
def segAt (xs : List Int) (oA : Option Addr) (om oc : Nat) (os : List Od) (k : Nat) : Sg :=
  ⟨if 1 ≤ k then num2 xs 0 else 0, if 2 ≤ k then num2 xs 2 else 0, if 3 ≤ k then num4 xs 4 else 0, if 4 ≤ k then num4 xs 8 else 0, if 5 ≤ k then xs.getD 13 0 else 0, if 6 ≤ k then num2 xs 14 else 0, if 7 ≤ k then num2 xs 16 else 0, if 8 ≤ k then num2 xs 18 else 0, oA, om, oc, os, none, 0, 0, []⟩

set_option maxRecDepth 100000 in
set_option maxHeartbeats 1600000 in
theorem tcparse_err (A : Option Addr) (n c : Nat) (xs : List Int) (w : World) (hn : n ≤ 140737488355328) (hc : n ≤ c) (hc2 : c ≤ 9223372036854775807) (hb : Bs w w.heap.size A n xs) (h : (aheadS xs).2 ≠ 0) :
    Calls Try.prog 13 #[.slice A n c] w (GivesS w (parseS xs)) := by
  have HX := Lib.hid (show parseS xs = (zeroSb, (aheadS xs).2) by unfold parseS; rw [if_neg h])
  go_enter Try.func13, Try.ntmps13
  go_wp2_with ((with_reducible refine wpList_alloc_seg rfl rfl ?_); intro w1 HZ hL hz1; refine Hid.out ?_)
  refine Lib.hid ?_
  replace HZ := Lib.hid HZ
  replace hb := hb.below' hL hL.size
  go_wp2_with fail
  refine (ahead_any A n c xs w1 hn hb).mono ?_
  rintro e w2 ⟨rfl, k, rfl⟩
  replace HZ : Hid (BlkS (w1.drewN k) w.heap.size zeroS) := HZ
  replace hL := below_drewN hL k
  clear hb hz1
  generalize w1.drewN k = w3 at *
  generalize (aheadS xs).1 = m at *
  obtain ⟨x, hx⟩ : ∃ x, x = (aheadS xs).2 := ⟨_, rfl⟩
  rw [← hx] at h HX ⊢
  clear hx
  go_wp2_with ((refine wpList_store_seg rfl (.tmp 2) (.tmp 17) rfl w.heap.size rfl zeroS rfl zeroS HZ.out ?_); intro w4 HG hb4 hz4)
  exact ret_seg Try.results13 rfl rfl HG (GivesS.of HX.out rfl (zeroS_ok _ _) (Below.trans hL hb4)) rfl
end Go.Proofs.Ytkbgfddicpnbmaa
