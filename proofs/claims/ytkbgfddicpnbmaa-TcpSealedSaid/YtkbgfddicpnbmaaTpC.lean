/- How long the data of a kind must be: what topt.fits and the document's own Long answer. Condition: the kind is an int. -/
import Derived.Test.YtkbgfddicpnbmaaTpB
import Derived.Maps.OwnSet
namespace Go.Proofs.Ytkbgfddicpnbmaa
open Go.RowKit Go.MapKept Go.ChangeMaps
set_option linter.unusedVariables false

/-- the map of lengths, as data -/
def ask0 : DataW Unit := .map []
def ask1 := ask0.put (.int .i64 1) (.lit (.int .i64 0))
def ask2 := ask1.put (.int .i64 2) (.lit (.int .i64 2))
def ask3 := ask2.put (.int .i64 3) (.lit (.int .i64 1))
def ask4 := ask3.put (.int .i64 4) (.lit (.int .i64 0))
def ask5 := ask4.put (.int .i64 8) (.lit (.int .i64 8))
theorem ask_eq : ask5 = .map [(.int .i64 1, .lit (.int .i64 0)), (.int .i64 2, .lit (.int .i64 2)), (.int .i64 3, .lit (.int .i64 1)), (.int .i64 4, .lit (.int .i64 0)), (.int .i64 8, .lit (.int .i64 8))] := by rfl
theorem ask_dec (n : Nat) (c : Int) : ((n : Int) == c) = decide (c = n) := by
  by_cases h : c = n
  · simp [h]
  · have h2 : ¬ (n : Int) = c := fun e => h e.symm
    simp [h, h2]
theorem ask_fits {k c : Int} {n : Nat} (h : ask5.atKey (.int .i64 k) (.lit (.int .i64 0)) = .lit (.int .i64 c)) : (!Maps.has ask5 (.int .i64 k) || (n : Int) == c) = fitsO k n := by
  rw [ask_eq] at h ⊢
  simp only [Maps.has, DataW.atKey, List.any_cons, List.any_nil, List.find?_cons, List.find?_nil, Lit.sameKey, true_and] at h ⊢
  unfold fitsO longR
  by_cases h1 : k = 1
  · subst h1; simp at h ⊢; rw [← h]; exact ask_dec _ _
  · by_cases h2 : k = 2
    · subst h2; simp at h ⊢; rw [← h]; exact ask_dec _ _
    · by_cases h3 : k = 3
      · subst h3; simp at h ⊢; rw [← h]; exact ask_dec _ _
      · by_cases h4 : k = 4
        · subst h4; simp at h ⊢; rw [← h]; exact ask_dec _ _
        · by_cases h8 : k = 8
          · subst h8; simp at h ⊢; rw [← h]; exact ask_dec _ _
          · have e1 : ¬ (1 : Int) = k := fun e => h1 e.symm
            have e2 : ¬ (2 : Int) = k := fun e => h2 e.symm
            have e3 : ¬ (3 : Int) = k := fun e => h3 e.symm
            have e4 : ¬ (4 : Int) = k := fun e => h4 e.symm
            have e8 : ¬ (8 : Int) = k := fun e => h8 e.symm
            simp [h1, h2, h3, h4, h8, e1, e2, e3, e4, e8]

theorem i64_wf {a : Int} (h : i64ok a) : (Lit.int .i64 a).wf = true := by
  unfold i64ok at h
  have h1 : IntKind.i64.min ≤ a := h.1
  have h2 : a ≤ IntKind.i64.max := h.2
  simp only [Lit.wf, Bool.and_eq_true, decide_eq_true_eq]
  exact ⟨h1, h2⟩

set_option maxHeartbeats 800000 in
theorem fits_any (k : Int) (n : Nat) (w : World) (hk : i64ok k) (hn : n ≤ 140737488355330) :
    Calls Try.prog 73 #[.int .i64 k, .int .i64 n] w fun e w' => e = .returned (.bool (fitsO k n)) ∧ Below w.heap.size w w' := by
  have K : Maps.Keyed Try.prog 3 := Maps.int_keyed Try.underlying3
  have key : ∀ a : Int, i64ok a → keyOf Try.prog 3 (.int .i64 a) = some (.int .i64 a) := fun a ha => Maps.keyOf_int_mk Try.underlying3 (i64_wf ha)
  have val : ∀ a : Int, i64ok a → plainElem (H := Unit) Try.prog 3 (.int .i64 a) = some (.lit (.int .i64 a), []) := fun a ha => plainElem_int Try.underlying3 (i64_wf ha)
  have ht := Try.underlying97
  have ok : ∀ a : Int, 0 ≤ a → a ≤ 8 → i64ok a := fun a h1 h2 => by unfold i64ok; omega
  have m0 := World.ownsMap_made w Try.prog 3 (plainElem (H := Unit) Try.prog 3)
  have hB0 := Low.alloc w (.map #[] 0)
  have hsz : w.heap.size ≤ (w.alloc (.map #[] 0)).heap.size := hB0.size
  generalize hw1 : w.alloc (.map #[] 0) = w1 at *
  have hmm : (Instr.makeMap 97 none).run Try.prog w = .ok (.map (some w.heap.size)) w1 := hw1 ▸ run_makeMap 97 w
  obtain ⟨w2, r1, m1, g1⟩ := m0.update K ht (by simp [maxLen]) (key 1 (ok 1 (by omega) (by omega))) (val 0 (ok 0 (by omega) (by omega)))
  obtain ⟨w3, r2, m2, g2⟩ := m1.update K ht (by simp [maxLen]) (key 2 (ok 2 (by omega) (by omega))) (val 2 (ok 2 (by omega) (by omega)))
  obtain ⟨w4, r3, m3, g3⟩ := m2.update K ht (by simp [maxLen]) (key 3 (ok 3 (by omega) (by omega))) (val 1 (ok 1 (by omega) (by omega)))
  obtain ⟨w5, r4, m4, g4⟩ := m3.update K ht (by simp [maxLen]) (key 4 (ok 4 (by omega) (by omega))) (val 0 (ok 0 (by omega) (by omega)))
  obtain ⟨w6, r5, m5, g5⟩ := m4.update K ht (by simp [maxLen]) (key 8 (ok 8 (by omega) (by omega))) (val 8 (ok 8 (by omega) (by omega)))
  obtain ⟨v, ps, rl, hv⟩ := m5.look_ok K ht (Try.zeroValue3 _) (val 0 (ok 0 (by omega) (by omega))) (key k hk)
  obtain ⟨c, rfl, hc, _⟩ := plainElem_int_inv Try.underlying3 hv
  have h1 : ∀ x, some w.heap.size = some x → w.heap.size ≤ x := fun x e => by injection e with e; omega
  have hB : Below w.heap.size w w6 := ((((((hB0.grown g1 hB0.size h1).grown g2 (Nat.le_trans hsz g1.size) h1)).grown g3 (Nat.le_trans hsz (Nat.le_trans g1.size g2.size)) h1).grown g4 (Nat.le_trans hsz (Nat.le_trans g1.size (Nat.le_trans g2.size g3.size))) h1).grown g5 (Nat.le_trans hsz (Nat.le_trans g1.size (Nat.le_trans g2.size (Nat.le_trans g3.size g4.size)))) h1)
  have HF := Lib.hid (ask_fits (n := n) (congrArg Prod.fst hc))
  have HB := Lib.hid hB
  generalize hh : Maps.has ask5 (.int .i64 k) = h at *
  replace rl : (Instr.lookup 97 (.map (some w.heap.size)) (.int .i64 k) true).run Try.prog w6 = .ok (.tuple #[.int .i64 c, .bool h]) w6 := by rw [← hh]; exact rl
  clear hh hv hc m0 m1 m2 m3 m4 m5 g1 g2 g3 g4 g5 hB hB0 hsz hw1 K key val ok h1 ht hk
  go_enter Try.func73, Try.ntmps73
  cases h
  · go_wp2_with fail
    go_ret
    exact ⟨ret_bool HF.out, HB.out⟩
  · go_wp2_with fail
    go_ret
    exact ⟨ret_bool HF.out, HB.out⟩

set_option maxHeartbeats 800000 in
theorem rlong_any (k : Int) (w : World) : Calls Try.prog 75 #[.int .i64 k] w fun e w' => e = .returned (.int .i64 (longR k)) ∧ w' = w := by
  by_cases h1 : k = 1
  · subst h1
    go_enter Try.func75, Try.ntmps75
    go_wp2_with fail
    go_ret
    exact ⟨rfl, rfl⟩
  · by_cases h4 : k = 4
    · subst h4
      go_enter Try.func75, Try.ntmps75
      go_wp2_with fail
      go_ret
      exact ⟨rfl, rfl⟩
    · by_cases h2 : k = 2
      · subst h2
        go_enter Try.func75, Try.ntmps75
        go_wp2_with fail
        go_ret
        exact ⟨rfl, rfl⟩
      · by_cases h3 : k = 3
        · subst h3
          go_enter Try.func75, Try.ntmps75
          go_wp2_with fail
          go_ret
          exact ⟨rfl, rfl⟩
        · by_cases h8 : k = 8
          · subst h8
            go_enter Try.func75, Try.ntmps75
            go_wp2_with fail
            go_ret
            exact ⟨rfl, rfl⟩
          · have HL := Lib.hid (show longR k = -1 by unfold longR; rw [if_neg (by omega), if_neg h2, if_neg h3, if_neg h8])
            go_enter Try.func75, Try.ntmps75
            go_wp2_with fail
            go_ret
            exact ⟨by rw [HL.out]; rfl, rfl⟩
end Go.Proofs.Ytkbgfddicpnbmaa
