/- Stage 21: what the program's own table is to tell, as a structure over any memory of its own; what the laws ask of every program. No condition. -/
import Derived.Test.YtipggnjjmpacmaaSlB
import Derived.Test.YtipggnjjmpacmaaObj
set_option maxRecDepth 100000
namespace Go.Proofs.Ytipggnjjmpacmaa
open Go.RowKit
set_option linter.unusedVariables false

/-- the document's weak hash -/
def hashS (k : Int) : Nat := (BitVec.ofInt 64 k &&& 13#64).toNat
theorem hashS_le (k : Int) : hashS k ≤ 13 := by
  unfold hashS
  rw [BitVec.toNat_and]
  exact Nat.and_le_right
def homeS (n : Nat) (k : Int) : Nat := hashS k % n
theorem homeS_lt {n : Nat} (h : 0 < n) (k : Int) : homeS n k < n := Nat.mod_lt _ h
set_option maxHeartbeats 400000 in
theorem rhashS_any (k : Int) (w : World) : Calls Try.prog 7 #[.int .i64 k] w fun e w' => e = .returned (.int .u64 (hashS k)) ∧ w = w' := by
  have hh := hashS_le k
  have HB := Lib.hid (show bits BinOp.and IntKind.i64 k 13 = (hashS k : Int) by
    show IntKind.i64.wrap ((BitVec.ofInt 64 k &&& BitVec.ofInt 64 13).toNat : Int) = _
    rw [show (BitVec.ofInt 64 k &&& BitVec.ofInt 64 13).toNat = hashS k from rfl, IntKind.wrap_i64]
    omega)
  have HW := Lib.hid (show IntKind.u64.wrap (hashS k : Int) = hashS k by rw [IntKind.wrap_u64]; omega)
  go_enter Try.func7, Try.ntmps7
  go_wp2_with fail
  go_ret
  exact ⟨by rw [HB.out, HW.out]; rfl, rfl⟩

/-- a table of the program: R says that it stands at p, keeps its memory in F, has n cells, and what lies in these -/
structure SlObj where
  R : World → Value → (Nat → Prop) → Nat → List (Option (Int × Int)) → Prop
  under : ∀ {w p F n cs}, R w p F n cs → Under F w
  keep : ∀ {w w' p F n cs}, R w p F n cs → w.heap.size ≤ w'.heap.size → (∀ k, F k → w'.heap[k]? = w.heap[k]?) → R w' p F n cs
  right : ∀ {w p F n cs}, R w p F n cs → (1 ≤ n ∧ n ≤ 256) ∧ StS n (homeS n) cs
  new : ∀ (n : Nat) (w : World), 1 ≤ n → n ≤ 256 → Calls Try.prog 6 #[.int .i64 n, .func (.func 7) #[] #[]] w fun e w' => ∃ g F, e = .returned (.pointer (some ⟨g, 0, none⟩)) ∧ R w' (.pointer (some ⟨g, 0, none⟩)) F n (List.replicate n none) ∧ (∀ k, F k → w.heap.size ≤ k) ∧ Low w w'
  newNot : ∀ (n : Int) (w : World), i64ok n → ¬ (1 ≤ n ∧ n ≤ 256) → Calls Try.prog 6 #[.int .i64 n, .func (.func 7) #[] #[]] w fun e w' => e = .returned (.pointer none) ∧ Low w w'
  put : ∀ {w p F n cs} (k v : Int), R w p F n cs → i64ok k → i64ok v → Calls Try.prog 9 #[p, .int .i64 k, .int .i64 v] w fun e w' => e = .returned (.bool (mayS (pairsS cs) n k)) ∧
    ∃ F' cs', R w' p F' n cs' ∧ (pairsS cs').Perm (if mayS (pairsS cs) n k = true then (k, v) :: outS (pairsS cs) k else pairsS cs) ∧ Grow F F' w ∧ Out F w w'
  del : ∀ {w p F n cs} (k : Int), R w p F n cs → i64ok k → Calls Try.prog 11 #[p, .int .i64 k] w fun e w' => e = .returned (.bool (hasS (pairsS cs) k)) ∧
    ∃ F' cs', R w' p F' n cs' ∧ (pairsS cs').Perm (outS (pairsS cs) k) ∧ Grow F F' w ∧ Out F w w'
  get : ∀ {w p F n cs} (k : Int), R w p F n cs → i64ok k → Calls Try.prog 13 #[p, .int .i64 k] w fun e w' => ∃ v : Int, e = .returned (.tuple #[.int .i64 v, .bool (hasS (pairsS cs) k)]) ∧
    (hasS (pairsS cs) k = true → (k, v) ∈ pairsS cs) ∧ (hasS (pairsS cs) k = false → v = 0) ∧ Low w w'
  len : ∀ {w p F n cs}, R w p F n cs → Calls Try.prog 15 #[p] w fun e w' => e = .returned (.int .i64 ((pairsS cs).length : Nat)) ∧ Low w w'
  cap : ∀ {w p F n cs}, R w p F n cs → Calls Try.prog 16 #[p] w fun e w' => e = .returned (.int .i64 (n : Nat)) ∧ Low w w'
  home : ∀ {w p F n cs} (k : Int), R w p F n cs → i64ok k → Calls Try.prog 18 #[p, .int .i64 k] w fun e w' => e = .returned (.int .i64 (homeS n k : Nat)) ∧ Low w w'
  cell : ∀ {w p F n cs} (i : Nat) (x : Int × Int), R w p F n cs → cs[i]? = some (some x) → Calls Try.prog 17 #[p, .int .i64 i] w fun e w' => e = .returned (.tuple #[.int .i64 x.1, .int .i64 x.2, .bool true]) ∧ Low w w'
  cellNot : ∀ {w p F n cs} (i : Int), R w p F n cs → i64ok i → (∀ (j : Nat) (x : Int × Int), i = j → cs[j]? ≠ some (some x)) → Calls Try.prog 17 #[p, .int .i64 i] w fun e w' => e = .returned (.tuple #[.int .i64 0, .int .i64 0, .bool false]) ∧ Low w w'
theorem SlObj.low (O : SlObj) {w w' : World} {p : Value} {F : Nat → Prop} {n : Nat} {cs : List (Option (Int × Int))} (h : O.R w p F n cs) (hl : Low w w') : O.R w' p F n cs := O.keep h hl.size fun k hk => hl.block k (O.under h k hk)

theorem lives21_p1 : mayS [] 2 1 = true := by decide +kernel
theorem lives21_p2 : mayS [(1, 5)] 2 17 = true := by decide +kernel
theorem lives21_o1 : outS [] 1 = [] := by decide +kernel
theorem lives21_o2 : outS [(1, 5)] 17 = [(1, 5)] := by decide +kernel
theorem lives21_p3 : mayS [(17, 6), (1, 5)] 2 33 = false := by decide +kernel
theorem lives21_g : hasS [(17, 6), (1, 5)] 17 = true := by decide +kernel
theorem lives21_h : homeS 2 1 = 1 := by decide +kernel
set_option maxHeartbeats 3200000 in
set_option maxRecDepth 100000 in
theorem sllives_any (O : SlObj) (w : World) : Calls Try.prog 8 #[] w fun e w' => e = .returned (.bool true) ∧ Low w w' := by
  have HN0 := Lib.hid (fun u => O.newNot 0 u (by unfold i64ok; omega) (by omega))
  go_enter Try.func8, Try.ntmps8
  go_wp2_with fail
  refine (O.new 2 w (by omega) (by omega)).mono ?_
  rintro e w1 ⟨g, F0, rfl, hR, hF, hl⟩
  have HR := Lib.hid hR
  have HF := Lib.hid hF
  have HL := Lib.hid (show Below w.heap.size w w1 from hl)
  have HP := Lib.hid (show (pairsS (List.replicate 2 none)).Perm [] by rw [pairsS_free])
  generalize (List.replicate 2 none : List (Option (Int × Int))) = cs0 at *
  clear hR hF hl
  go_wp2_with fail
  have hz1 := HL.out.size
  refine (O.put 1 5 HR.out (by unfold i64ok; omega) (by unfold i64ok; omega)).mono ?_
  rintro e w2 ⟨rfl, F1, cs1, hR, hp, hG, hO⟩
  rw [mayS_perm HP.out, lives21_p1] at hp ⊢
  rw [if_pos rfl] at hp
  have HP1 := Lib.hid (hp.trans ((outS_perm HP.out 1).cons (1, 5)))
  rw [lives21_o1] at HP1
  have HF1 := Lib.hid (hG.from_ HF.out hz1)
  have HL1 := Lib.hid (HL.out.trans (hO.below HF.out hz1))
  have HR1 := Lib.hid hR
  clear hR hp hG hO HR HF HL HP hz1
  go_wp2_with fail
  have hz1 := HL1.out.size
  refine (O.put 17 6 HR1.out (by unfold i64ok; omega) (by unfold i64ok; omega)).mono ?_
  rintro e w3 ⟨rfl, F2, cs2, hR, hp, hG, hO⟩
  rw [mayS_perm HP1.out, lives21_p2] at hp ⊢
  rw [if_pos rfl] at hp
  have HP2 := Lib.hid (hp.trans ((outS_perm HP1.out 17).cons (17, 6)))
  rw [lives21_o2] at HP2
  have HF2 := Lib.hid (hG.from_ HF1.out hz1)
  have HL2 := Lib.hid (HL1.out.trans (hO.below HF1.out hz1))
  have HR2 := Lib.hid hR
  clear hR hp hG hO HR1 HF1 HL1 HP1 hz1
  go_wp2_with fail
  have hz1 := HL2.out.size
  refine (O.put 33 7 HR2.out (by unfold i64ok; omega) (by unfold i64ok; omega)).mono ?_
  rintro e w4 ⟨rfl, F3, cs3, hR, hp, hG, hO⟩
  rw [mayS_perm HP2.out, lives21_p3] at hp ⊢
  rw [if_neg (by simp)] at hp
  have HP3 := Lib.hid (hp.trans HP2.out)
  have HF3 := Lib.hid (hG.from_ HF2.out hz1)
  have HL3 := Lib.hid (HL2.out.trans (hO.below HF2.out hz1))
  have HR3 := Lib.hid hR
  clear hR hp hG hO HR2 HF2 HL2 HP2 hz1
  go_wp2_with fail
  refine (O.get 17 HR3.out (by unfold i64ok; omega)).mono ?_
  rintro e w5 ⟨v, rfl, hv, _, hl⟩
  rw [hasS_perm HP3.out, lives21_g] at hv ⊢
  obtain rfl : v = 6 := one_of_keys (O.right HR3.out).2.keys (hv rfl) (HP3.out.mem_iff.2 (by simp))
  have HR4 := Lib.hid (O.low HR3.out hl)
  have HL4 := Lib.hid (HL3.out.trans (hl.mono HL3.out.size))
  clear hl hv HR3 HL3
  go_wp2_with fail
  refine (O.len HR4.out).mono ?_
  rintro e w6 ⟨rfl, hl⟩
  rw [HP3.out.length_eq]
  have HR5 := Lib.hid (O.low HR4.out hl)
  have HL5 := Lib.hid (HL4.out.trans (hl.mono HL4.out.size))
  clear hl HR4 HL4
  go_wp2_with fail
  refine (O.home 1 HR5.out (by unfold i64ok; omega)).mono ?_
  rintro e w7 ⟨rfl, hl⟩
  rw [lives21_h]
  have HL6 := Lib.hid (HL5.out.trans (hl.mono HL5.out.size))
  clear hl HR5 HL5
  go_wp2_with fail
  refine (HN0.out w7).mono ?_
  rintro e w8 ⟨rfl, hl⟩
  have HL7 := Lib.hid (HL6.out.trans (hl.mono HL6.out.size))
  clear hl HL6
  go_wp2_with fail
  go_ret
  exact ⟨rfl, HL7.out⟩
end Go.Proofs.Ytipggnjjmpacmaa
