/- Texts joined.
  What the document's own hex and digit tell. Conditions: hex: the number is from 0 to 65535; digit: any byte.
  What the document's own groups tells of any text. Condition: it is shorter than 2^32 - 15 bytes.
  What the document's own Read tells of any text. Condition: it is shorter than 2^32 - 15 bytes.
  What the document's own Text tells. Condition: an address is 16 bytes.
  Plain mathematics of layer 3: the code's text of an address is the document's. No condition but that there are eight numbers.
  Plain mathematics of layer 3: the code reads what the document reads, and an address is read from its text. No condition.
  Plain mathematics of layer 3: an address is read from its text as what it was. No condition but that it is 16 bytes.
  Plain mathematics of layer 3: the first bits of addresses. Condition: they are 16 bytes.
  The examples of layer 3, as the statements' own lives asks for them. Condition: the library's variables hold what its text lays.
-/
import Derived.Test.YtjafjapnmffohaaDoorJAf
import Derived.Laws.DeepStrings4
set_option maxRecDepth 100000
namespace Go.Proofs.YtjafjapnmffohaaDoor
open Go.RowKit
set_option linter.unusedVariables false

def digs16 : ByteArray := ⟨#[48, 49, 50, 51, 52, 53, 54, 55, 56, 57, 97, 98, 99, 100, 101, 102]⟩
def digsUp : ByteArray := ⟨#[48, 49, 50, 51, 52, 53, 54, 55, 56, 57, 65, 66, 67, 68, 69, 70]⟩
def hexU (n : Nat) : UInt8 := if n < 10 then UInt8.ofNat (48 + n) else UInt8.ofNat (55 + n)
theorem dig_tab16 (i : Nat) (h : i < 16) (h' : i < digs16.size) : digs16[i] = hexD i := by
  have k : ∀ n : Fin 16, digs16[n.val]'(Nat.lt_of_lt_of_le n.isLt (by decide)) = hexD n.val := by decide
  exact k ⟨i, h⟩
theorem dig_tabUp (i : Nat) (h : i < 16) (h' : i < digsUp.size) : digsUp[i] = hexU i := by
  have k : ∀ n : Fin 16, digsUp[n.val]'(Nat.lt_of_lt_of_le n.isLt (by decide)) = hexU n.val := by decide
  exact k ⟨i, h⟩
theorem dig_cut (i : Nat) (h : i < 16) : digs16.extract i (i + 1) = strL [hexD i] := by
  have k : ∀ n : Fin 16, (digs16.extract n.val (n.val + 1)).data = (strL [hexD n.val]).data := by decide
  exact ByteArray.ext (k ⟨i, h⟩)
theorem digV_hexD (i : Nat) (h : i < 16) : digV (hexD i).toNat = some i ∧ digV (hexU i).toNat = some i := by
  have k : ∀ n : Fin 16, digV (hexD n.val).toNat = some n.val ∧ digV (hexU n.val).toNat = some n.val := by decide
  exact k ⟨i, h⟩
theorem digV_is (c : Nat) (d : Nat) (h : digV c = some d) : d < 16 ∧ (c = (hexD d).toNat ∨ c = (hexU d).toNat) := by
  have k : ∀ n : Fin 128, ∀ e : Fin 16, digV n.val = some e.val → n.val = (hexD e.val).toNat ∨ n.val = (hexU e.val).toNat := by decide +kernel
  have hl := digV_lt h
  exact ⟨hl.1, k ⟨c, hl.2⟩ ⟨d, hl.1⟩ h⟩

set_option maxHeartbeats 800000 in
set_option maxRecDepth 100000 in
theorem rhex_small (n : Nat) (w : World) (hn : n < 16) :
    Calls Tryd.prog 33 #[.int .i64 n] w fun e w' => e = .returned (.string (strL (hexL n))) ∧ w = w' := by
  have HX := Lib.hid (dig_cut n hn)
  unfold digs16 at HX
  have HS := Lib.hid (hexL_small n hn)
  have hsl : ∀ u : World, (Instr.slice 9 (.string ⟨#[48, 49, 50, 51, 52, 53, 54, 55, 56, 57, 97, 98, 99, 100, 101, 102]⟩) (some (.int .i64 (n : Int))) (some (.int .i64 ((n : Int) + 1))) none).run Tryd.prog u = .ok (.string (strL [hexD n])) u := fun u => by
    rw [run_slice_string_if (P := Tryd.prog) u 9 _ .i64 .i64 n (n + 1) Tryd.underlying9, if_pos ⟨by omega, by show (n : Int) + 1 ≤ ((16 : Nat) : Int); omega⟩, if_pos ⟨by omega, by omega⟩, show ((n : Int) + 1).toNat = n + 1 by omega, Int.toNat_natCast, HX.out]
  clear HX
  go_enter Tryd.func33, Tryd.ntmps33
  go_wp2_with fail
  go_ret
  refine ⟨?_, rfl⟩
  rw [HS.out]
  rfl

set_option maxHeartbeats 800000 in
theorem rhex_any (f : Nat) : ∀ (n : Nat) (w : World), n < 16 ^ f → n < 65536 →
    Calls Tryd.prog 33 #[.int .i64 n] w fun e w' => e = .returned (.string (strL (hexL n))) ∧ w = w' := by
  induction f with
  | zero => intro n w h _; exact rhex_small n w (by simp at h; omega)
  | succ f ih =>
    intro n w h h2
    by_cases hs : n < 16
    · exact rhex_small n w hs
    · have HM := Lib.hid (hexL_more n (by omega) h2)
      have HF := Lib.hid h
      have HR := Lib.hid (hexL_small (n % 16) (by omega))
      have HSZ := Lib.hid (hexL_length (n / 16))
      have hs' : ¬ (n : Int) < 16 := by omega
      clear h
      go_enter Tryd.func33, Tryd.ntmps33
      go_wp2_with fail
      refine (ih (n / 16) w (by have := HF.out; rw [Nat.pow_succ] at this; omega) (by omega)).mono ?_
      rintro e w1 ⟨rfl, rfl⟩
      go_wp2_with fail
      refine (rhex_small (n % 16) w (by omega)).mono ?_
      rintro e w1 ⟨rfl, rfl⟩
      rw [HR.out]
      have hz : ¬ 9223372036854775807 < (strL (hexL (n / 16))).size + (strL [hexD (n % 16)]).size := by rw [strL_size, strL_size]; have := HSZ.out; simp; omega
      have HA := Lib.hid (strL_append (hexL (n / 16)) [hexD (n % 16)])
      go_wp2_with fail
      go_ret
      refine ⟨?_, rfl⟩
      rw [HM.out, ← HA.out]
      rfl

/-- the digit that a byte is; below 0: it is none -/
def digR (c : Nat) : Int := match digV c with | some d => (d : Int) | none => -1
theorem digR_some {c d : Nat} (h : digV c = some d) : digR c = d := by rw [digR, h]
theorem digR_none {c : Nat} (h : digV c = none) : digR c = -1 := by rw [digR, h]

end Go.Proofs.YtjafjapnmffohaaDoor

namespace Go.Proofs.YtjafjapnmffohaaDoor
open Go.RowKit
set_option linter.unusedVariables false

/-- the numbers of a text of groups, letter by letter -/
def scanG : Nat → Nat → List Int → List UInt8 → Option (List Int)
  | n, long, out, [] => some (if long = 0 then out else out ++ [(n : Int)])
  | n, long, out, b :: r => if b.toNat = 58 then (if long = 0 ∨ r = [] then none else scanG 0 0 (out ++ [(n : Int)]) r) else match digV b.toNat with
    | none => none
    | some d => if long = 4 then none else scanG (n * 16 + d) (long + 1) out r
def LongN (n long : Nat) : Prop := (long = 0 ∧ n = 0) ∨ (long = 1 ∧ n < 16) ∨ (long = 2 ∧ n < 256) ∨ (long = 3 ∧ n < 4096) ∨ (long = 4 ∧ n < 65536)
def SgRel (w : World) (s : ByteArray) (v a b i : Value) (wr : World) : Prop :=
  ∃ (k n long q : Nat) (A : Option Addr) (c : Nat) (out : List Int), k ≤ s.size ∧ q ≤ k ∧ i = .int .i64 k ∧ a = .int .i64 n ∧ b = .int .i64 long ∧ v = .slice A q c ∧ LongN n long ∧ OwnN 3 wr w.heap.size A q c out ∧ (∀ x ∈ out, 0 ≤ x ∧ x < 65536) ∧
    scanG 0 0 [] s.data.toList = scanG n long out (s.data.toList.drop k) ∧ Below w.heap.size w wr
def GivesMs (w : World) (o : Option (List Int)) (e : Ending) (w' : World) : Prop :=
  ∃ A n c, e = .returned (.tuple #[.slice A n c, .bool o.isSome]) ∧ Ns w' w'.heap.size A n (o.getD []) ∧ n ≤ 4294967296 ∧ (∀ x ∈ o.getD [], 0 ≤ x ∧ x < 65536) ∧ Below w.heap.size w w'
theorem drop_nil (s : ByteArray) (k : Nat) : s.data.toList.drop (k + 1) = [] ↔ s.size ≤ k + 1 := by
  rw [List.drop_eq_nil_iff]; simp

end Go.Proofs.YtjafjapnmffohaaDoor

namespace Go.Proofs.YtjafjapnmffohaaDoor
open Go.RowKit
set_option linter.unusedVariables false

theorem occ_yes {s : ByteArray} {k : Nat} (h : k + 1 < s.size) (h1 : s[k].toNat = 58) (h2 : s[k + 1].toNat = 58) : Lib.occAt s.data.toList [58, 58] k = true := by
  have e1 : s[k] = 58 := UInt8.toNat_inj.1 h1
  have e2 : s[k + 1] = 58 := UInt8.toNat_inj.1 h2
  unfold Lib.occAt
  rw [drop_byte s k (by omega), drop_byte s (k + 1) h, e1, e2]
  rfl
theorem occ_no1 {s : ByteArray} {k : Nat} (h : k < s.size) (h1 : ¬ s[k].toNat = 58) : Lib.occAt s.data.toList [58, 58] k = false := by
  unfold Lib.occAt
  rw [drop_byte s k h]
  have : (58 == s[k]) = false := by
    rw [beq_eq_false_iff_ne]
    intro e
    exact h1 (by rw [← e]; rfl)
  simp [List.isPrefixOf, this]
theorem occ_no2 {s : ByteArray} {k : Nat} (h : k + 1 < s.size) (h1 : ¬ s[k + 1].toNat = 58) : Lib.occAt s.data.toList [58, 58] k = false := by
  unfold Lib.occAt
  rw [drop_byte s k (by omega), drop_byte s (k + 1) h]
  have : (58 == s[k + 1]) = false := by
    rw [beq_eq_false_iff_ne]
    intro e
    exact h1 (by rw [← e]; rfl)
  simp [List.isPrefixOf, this]
theorem occ_end {s : ByteArray} {k : Nat} (h : s.size ≤ k + 1) : Lib.occAt s.data.toList [58, 58] k = false := by
  cases hq : Lib.occAt s.data.toList [58, 58] k with
  | false => rfl
  | true =>
    rcases Lib.occAt_room hq with h' | h'
    · simp at h'; omega
    · cases h'
theorem cut_found {s : ByteArray} {a : Nat} (h : a + 1 < s.size) (h1 : Lib.occAt s.data.toList [58, 58] a = true) (h2 : ∀ j, j < a → Lib.occAt s.data.toList [58, 58] j = false) :
    Lib.cut s.data.toList [58, 58] = (s.data.toList.take a, s.data.toList.drop (a + 2), true) := by
  have hi := Lib.index_first (by simp; omega) h1 h2
  unfold Lib.cut
  rw [hi, if_pos (by omega)]
  rfl
theorem cut_none {s : ByteArray} (h2 : ∀ j, Lib.occAt s.data.toList [58, 58] j = false) : Lib.cut s.data.toList [58, 58] = (s.data.toList, [], false) := by
  have hi := Lib.index_none (s := s.data.toList) (sub := [58, 58]) (fun j _ => h2 j)
  unfold Lib.cut
  rw [hi, if_neg (by omega)]

/-- the document's way -/
def rreadP (short : Bool) (x y : Option (List Int)) : Option (List Int) :=
  if short then
    match x, y with
    | some a, some b => if a.length + b.length ≤ 7 then some (ofL (a ++ (List.replicate (8 - a.length - b.length) 0 ++ b))) else none
    | _, _ => none
  else
    match x with
    | some a => if a.length = 8 then some (ofL a) else none
    | none => none
def rreadL (l : List UInt8) : Option (List Int) := rreadP (Lib.cut l [58, 58]).2.2 (scanG 0 0 [] (Lib.cut l [58, 58]).1) (scanG 0 0 [] (Lib.cut l [58, 58]).2.1)

def FdRel (w1 : World) (s : ByteArray) (v i : Value) (wr : World) : Prop :=
  wr = w1 ∧ ((∃ k : Nat, v = .int .i64 (-1) ∧ i = .int .i64 k ∧ k ≤ s.size ∧ ∀ j, j < k → Lib.occAt s.data.toList [58, 58] j = false) ∨
  (∃ a : Nat, v = .int .i64 a ∧ i = .int .i64 (a + 1 : Nat) ∧ a + 1 < s.size ∧ Lib.occAt s.data.toList [58, 58] a = true ∧ ∀ j, j < a → Lib.occAt s.data.toList [58, 58] j = false))

/-- eight numbers, the first k of xs laid -/
theorem lay1_set (xs : List Int) (n k : Nat) (hn : xs.length = n) (hk : k < n) (h8 : n ≤ 8) : (xs.take k ++ zero8.drop k).set k (xs.getD k 0) = xs.take (k + 1) ++ zero8.drop (k + 1) := by
  rw [List.set_append_right _ _ (by simp; omega), drop_at zero8 k (by show k < 8; omega)]
  simp only [List.length_take, hn, Nat.min_eq_left (Nat.le_of_lt hk), Nat.sub_self, List.set_cons_zero]
  rw [List.take_succ_eq_append_getElem (show k < xs.length by omega), List.append_assoc, show xs.getD k 0 = xs[k] by simp [List.getD, show k < xs.length by omega]]
  rfl
theorem zero8_drop (n : Nat) (h : n ≤ 8) : zero8.drop n = List.replicate (8 - n) 0 := by
  rw [show zero8 = List.replicate 8 0 from rfl, List.drop_replicate]
/-- eight numbers, the first k of ys laid at the end -/
def lay2 (xs ys : List Int) (n m k : Nat) : List Int := xs ++ (List.replicate (8 - n - m) 0 ++ (ys.take k ++ List.replicate (m - k) 0))
theorem lay2_start (xs ys : List Int) (n m : Nat) (h : n + m ≤ 7) : xs ++ List.replicate (8 - n) 0 = lay2 xs ys n m 0 := by
  unfold lay2
  rw [List.take_zero, List.nil_append, List.replicate_append_replicate]
  congr 2; omega
theorem lay2_length (xs ys : List Int) (n m k : Nat) (hx : xs.length = n) (hy : ys.length = m) (hk : k ≤ m) (h : n + m ≤ 7) : (lay2 xs ys n m k).length = 8 := by
  unfold lay2; simp; omega
theorem lay2_set (xs ys : List Int) (n m k : Nat) (hx : xs.length = n) (hy : ys.length = m) (hk : k < m) (h : n + m ≤ 7) : (lay2 xs ys n m k).set (8 - m + k) (ys.getD k 0) = lay2 xs ys n m (k + 1) := by
  unfold lay2
  rw [List.set_append_right _ _ (by omega), List.set_append_right _ _ (by simp; omega), List.set_append_right _ _ (by simp; omega)]
  congr 2
  rw [show m - k = (m - (k + 1)) + 1 by omega, List.replicate_succ, List.take_succ_eq_append_getElem (show k < ys.length by omega), List.append_assoc]
  congr 1
  have e : 8 - m + k - xs.length - (List.replicate (8 - n - m) (0 : Int)).length - (List.take k ys).length = 0 := by simp; omega
  rw [e, List.set_cons_zero]
  simp [List.getD, show k < ys.length by omega]
theorem lay2_end (xs ys : List Int) (n m : Nat) (hx : xs.length = n) (hy : ys.length = m) : lay2 xs ys n m m = xs ++ (List.replicate (8 - xs.length - ys.length) 0 ++ ys) := by
  unfold lay2
  rw [List.take_of_length_le (by omega), Nat.sub_self, List.replicate_zero, List.append_nil, hx, hy]

end Go.Proofs.YtjafjapnmffohaaDoor

namespace Go.Proofs.YtjafjapnmffohaaDoor
open Go.RowKit
set_option linter.unusedVariables false

/-- where the longest row begins, of those that begin at 0 to k -/
def bestF (z : Nat → Bool) : Nat → Nat
  | 0 => 0
  | k + 1 => if zrN z (bestF z k) < zrN z (k + 1) then k + 1 else bestF z k
theorem bestF_le (z : Nat → Bool) (k : Nat) : bestF z k ≤ k := by
  induction k with
  | zero => exact Nat.le_refl _
  | succ k ih =>
    rw [bestF]
    split
    · exact Nat.le_refl _
    · omega
theorem best_yes {z : Nat → Bool} {k : Nat} (h : zrN z (bestF z k) < zrN z (k + 1)) : bestF z (k + 1) = k + 1 := by rw [bestF, if_pos h]
theorem best_no {z : Nat → Bool} {k : Nat} (h : ¬ zrN z (bestF z k) < zrN z (k + 1)) : bestF z (k + 1) = bestF z k := by rw [bestF, if_neg h]
/-- the text of the first numbers -/
def rtx (ws : List Int) (b l : Nat) : Nat → List UInt8
  | 0 => []
  | i + 1 => if 2 ≤ l ∧ b ≤ i ∧ i < b + l then (if i = b then rtx ws b l i ++ [58, 58] else rtx ws b l i)
    else (if 0 < i ∧ (l < 2 ∨ ¬ i = b + l) then rtx ws b l i ++ [58] else rtx ws b l i) ++ hexL (ws.getD i 0).toNat
theorem rtx_length (ws : List Int) (b l i : Nat) : (rtx ws b l i).length ≤ 7 * i := by
  induction i with
  | zero => simp [rtx]
  | succ i ih =>
    rw [rtx]
    have := hexL_length (ws.getD i 0).toNat
    generalize hexL (ws.getD i 0).toNat = h at *
    split
    · split <;> simp <;> omega
    · split <;> simp <;> omega
def rtextL (s : List Int) : List UInt8 := rtx (wordsL s) (bestF (isZ (wordsL s)) 7) (zrN (isZ (wordsL s)) (bestF (isZ (wordsL s)) 7)) 8

theorem rhex_int (x : Int) (w : World) (h0 : 0 ≤ x) (h1 : x < 65536) :
    Calls Tryd.prog 33 #[.int .i64 x] w fun e w' => e = .returned (.string (strL (hexL x.toNat))) ∧ w = w' := by
  obtain ⟨u, rfl⟩ : ∃ u : Nat, x = u := ⟨x.toNat, by omega⟩
  exact rhex_any 4 u w (by omega) (by omega)
theorem exec_load_words {f : Operand → Value} {dd : Option Tmp} {x : Operand} {ty : TypeId} {pos : String} {gd : Option (Nat × Bool)} {w : World} {t : TypeId} {g : Nat} {s : List Int} (hx : f x = .pointer (some ⟨g, 0, none⟩)) (h : BlkN w t g s) (hs : s.length = 8) :
    (execOp f ⟨dd, .load 47 x, ty, pos, #[], gd⟩).run Tryd.prog w = .ok (.value (.agg (cellsN s).toArray)) w := by
  unfold execOp
  simp only [hx, Instr.loadAt, Instr.sureAddr, Sem.run_bind, Sem.run_pure, Result.andThen_ok, run_loadVar_row w g t 47 (cellsN s).toArray _ _ h Tryd.underlying47 rfl (by rw [words_size]; simp [cellsN_length, hs])]
theorem str_snoc (l m : List UInt8) (n : Nat) (hl : l.length ≤ 100) (hm : m.length ≤ 100) : strL l ++ strL m = strL (l ++ m) ∧ ¬ 9223372036854775807 < (strL l).size + (strL m).size := by
  refine ⟨strL_append l m, ?_⟩
  rw [strL_size, strL_size]; omega

set_option maxHeartbeats 3200000 in
set_option maxRecDepth 100000 in
theorem rtext_any (s : List Int) (w : World) (hs : s.length = 16) (vs : AllB s) :
    Calls Tryd.prog 22 #[addrV s] w fun e w' => e = .returned (.string (strL (rtextL s))) ∧ Below w.heap.size w w' := by
  unfold addrV
  have HS := Lib.hid hs
  clear hs
  have HB0 := Lib.hid (Blk.new w 23 s)
  have hL := low1 w s 23
  go_enter Tryd.func22, Tryd.ntmps22
  go_wp2_with (with_reducible refine wpList_load_addr rfl (.tmp 1) rfl w.heap.size rfl _ s HB0.out HS.out ?_)
  clear HB0
  generalize w.alloc (.cells (cellsB s).toArray 23) = w0 at *
  refine (rwords_any s w0 HS.out vs).mono ?_
  rintro e w1 ⟨rfl, hl⟩
  replace hL := hL.trans hl
  clear hl
  unfold wordsV
  have HW := Lib.hid (wordsL_length s)
  have HR := Lib.hid (words_range vs)
  have HT := Lib.hid (show rtextL s = rtx (wordsL s) (bestF (isZ (wordsL s)) 7) (zrN (isZ (wordsL s)) (bestF (isZ (wordsL s)) 7)) 8 from rfl)
  generalize wordsL s = ws at *
  have HN : Hid (BlkN (w1.alloc (.cells #[.int .i64 0, .int .i64 0, .int .i64 0, .int .i64 0, .int .i64 0, .int .i64 0, .int .i64 0, .int .i64 0] 47)) 47 w1.heap.size zero8) := BlkN.new w1 47 zero8
  have hl1 := Low.alloc w1 (.cells #[.int .i64 0, .int .i64 0, .int .i64 0, .int .i64 0, .int .i64 0, .int .i64 0, .int .i64 0, .int .i64 0] 47)
  go_wp2_with ((with_reducible refine wpList_store_words rfl (.tmp 3) (.tmp 10) rfl w1.heap.size rfl ws rfl _ zero8 HN.out rfl HW.out ?_); intro w2 HG hb2 hz2)
  have hB2 : Low w w2 := hL.trans (Below.trans (hl1.mono (Nat.le_refl _)) (hb2.mono (Nat.le_refl _)))
  have HG2 := Lib.hid HG
  clear HG hb2 hz2 hl1 HN hL
  generalize w1.heap.size = g at *
  go_loopw [4, 5] (fun b i wr => ∃ k : Nat, k ≤ 7 ∧ i = .int .i64 (k + 1 : Nat) ∧ b = .int .i64 (bestF (isZ ws) k : Nat) ∧ Hid (BlkN wr 47 g ws) ∧ Low w wr) (fun _ i _ => 8 - (intOf i).toNat)
  case atStart => exact ⟨0, Nat.zero_le _, rfl, rfl, HG2, hB2⟩
  case round =>
    clear HG2 hB2
    obtain ⟨k, hk, rfl, rfl, HG2, hB2⟩ := hrel
    by_cases hlt : k < 7
    · have hlt' : ((k + 1 : Nat) : Int) < 8 := by omega
      have HY := Lib.hid (best_yes (z := isZ ws) (k := k))
      have HN := Lib.hid (best_no (z := isZ ws) (k := k))
      have hbl := bestF_le (isZ ws) k
      go_wp2_with fail
      refine wp_region_plan (.rd 0 (.rd 1 (.rd 3 (.rd 4 (.act 2 (.act 5 (.rd 6 (.done))))))))
        (by kernel_rfl) (by kernel_rfl) (fun _ _ d _ _ h => by cases d <;> exact h) (by kernel_rfl) ?_
      have hDR : Low wr wr.drew := Below.drew (Below.refl _ _)
      replace hB2 := hB2.trans hDR
      replace HG2 : Hid (BlkN wr.drew 47 g ws) := HG2
      clear hDR
      generalize wr.drew = w3 at *
      iterate 4 (refine walkP_read (v := _) rfl (by rfl) (by intro y hy; first | exact exec_load_words rfl (HG2.out.below hy HG2.out.lt) HW.out | (go_simp; try rfl)) ?_; simp only [Act.put, List.setIfInBounds_toArray, List.set_cons_zero, List.set_cons_succ])
      refine walkP_act rfl (by rfl) (fun K hK => ?_)
      go_simp
      refine (zrun_any ws (k + 1) w3 HW.out (by omega)).mono ?_
      rintro e w4 ⟨rfl, hl⟩
      go_simp
      refine hK _ _ hl ?_
      clear hK K
      replace hB2 := hB2.trans hl
      replace HG2 := Lib.hid (HG2.out.below hl HG2.out.lt)
      clear hl
      refine walkP_act rfl (by rfl) (fun K hK => ?_)
      go_simp
      refine (zrun_any ws (bestF (isZ ws) k) w4 HW.out (by omega)).mono ?_
      rintro e w5 ⟨rfl, hl⟩
      go_simp
      refine hK _ _ hl ?_
      clear hK K
      replace hB2 := hB2.trans hl
      replace HG2 := Lib.hid (HG2.out.below hl HG2.out.lt)
      clear hl
      generalize zrN (isZ ws) (k + 1) = z1 at *
      generalize zrN (isZ ws) (bestF (isZ ws) k) = z2 at *
      iterate 1 (refine walkP_read (v := _) rfl (by rfl) (by intro y hy; go_simp; try rfl) ?_; simp only [Act.put, List.setIfInBounds_toArray, List.set_cons_zero, List.set_cons_succ])
      unfold walkP
      by_cases hz : z2 < z1
      · have HX := Lib.hid (HY.out hz)
        clear HY HN
        go_wp2_with fail
        go_roundw
        case rel => exact ⟨k + 1, by omega, by go_num, by rw [HX.out]; go_num, HG2, hB2⟩
        case measure => simp [intOf]; omega
      · have HX := Lib.hid (HN.out hz)
        clear HY HN
        go_wp2_with fail
        go_roundw
        case rel => exact ⟨k + 1, by omega, by go_num, by rw [HX.out], HG2, hB2⟩
        case measure => simp [intOf]; omega
    · obtain rfl : k = 7 := by omega
      have hbl := bestF_le (isZ ws) 7
      go_wp2_with (with_reducible refine wpList_load_words rfl (.tmp 3) rfl g rfl _ ws HG2.out HW.out ?_)
      refine (zrun_any ws (bestF (isZ ws) 7) wr HW.out (by omega)).mono ?_
      rintro e w6 ⟨rfl, hl⟩
      replace hB2 := hB2.trans hl
      replace HG2 := Lib.hid (HG2.out.below hl HG2.out.lt)
      clear hl
      have hzl := zrN_le (isZ ws) (bestF (isZ ws) 7)
      generalize zrN (isZ ws) (bestF (isZ ws) 7) = l at *
      generalize bestF (isZ ws) 7 = b at *
      go_wp2_with fail
      go_loop [7, 8] (fun v i => ∃ k : Nat, k ≤ 8 ∧ i = .int .i64 k ∧ v = .string (strL (rtx ws b l k))) (fun _ i => 8 - (intOf i).toNat)
      case atStart => exact ⟨0, Nat.zero_le _, rfl, rfl⟩
      case round =>
        obtain ⟨k, hk, rfl, rfl⟩ := hrel
        by_cases hlt : k < 8
        · have hlt' : (k : Int) < 8 := by omega
          have hrl := rtx_length ws b l k
          have HST := Lib.hid (show rtx ws b l (k + 1) = if 2 ≤ l ∧ b ≤ k ∧ k < b + l then (if k = b then rtx ws b l k ++ [58, 58] else rtx ws b l k)
            else (if 0 < k ∧ (l < 2 ∨ ¬ k = b + l) then rtx ws b l k ++ [58] else rtx ws b l k) ++ hexL (ws.getD k 0).toNat from rfl)
          have h0 := HG2.out.cell k
          rw [cellsN_get (by rw [HW.out]; exact hlt)] at h0
          have hv := HR.out k
          have hxl := hexL_length (ws.getD k 0).toNat
          generalize ws.getD k 0 = x at *
          have z1 := strL_size (rtx ws b l k)
          have z2 := strL_size (hexL x.toNat)
          have a1 := Lib.hid (strL_append (rtx ws b l k) [58])
          have a2 := Lib.hid (strL_append (rtx ws b l k) [58, 58])
          have a3 := Lib.hid (strL_append (rtx ws b l k) (hexL x.toNat))
          have a4 := Lib.hid (strL_append (rtx ws b l k ++ [58]) (hexL x.toNat))
          have s2 : ¬ 9223372036854775807 < (strL (rtx ws b l k)).size + 2 := by omega
          have s1 : ¬ 9223372036854775807 < (strL (rtx ws b l k)).size + 1 := by omega
          have s3 : ¬ 9223372036854775807 < (strL (rtx ws b l k)).size + (strL (hexL x.toNat)).size := by omega
          have s4 : ¬ 9223372036854775807 < (strL (rtx ws b l k)).size + 1 + (strL (hexL x.toNat)).size := by omega
          clear z1 z2 hrl hxl
          obtain ⟨R, hR⟩ : ∃ R, R = rtx ws b l k := ⟨_, rfl⟩
          rw [← hR] at HST a1 a2 a3 a4 s1 s2 s3 s4 ⊢
          clear hR
          by_cases hl2 : 2 ≤ l
          · have hl2i : (2 : Int) ≤ l := by omega
            have hl3 : ¬ l < 2 := by omega
            by_cases hbk : b ≤ k
            · by_cases hkb : k < b + l
              · by_cases he : k = b
                · have heb : ((k : Int) == (b : Int)) = true := by rw [beq_iff_eq]; omega
                  have HX := Lib.hid (HST.out.trans ((if_pos ⟨hl2, hbk, hkb⟩).trans (if_pos he)))
                  clear HST he
                  go_wp2_with fail
                  go_round
                  case rel => exact ⟨k + 1, by omega, by go_num, by rw [HX.out, ← a2.out]; rfl⟩
                  case measure => simp [intOf]; omega
                · have heb : ((k : Int) == (b : Int)) = false := by simp; omega
                  have HX := Lib.hid (HST.out.trans ((if_pos ⟨hl2, hbk, hkb⟩).trans (if_neg he)))
                  clear HST he
                  go_wp2_with fail
                  go_round
                  case rel => exact ⟨k + 1, by omega, by go_num, by rw [HX.out]⟩
                  case measure => simp [intOf]; omega
              · have hk0 : 0 < k := by omega
                by_cases he : k = b + l
                · have heb : ((k : Int) != (b : Int) + l) = false := by simp; omega
                  have hec : ((k : Int) == (b : Int) + l) = true := by rw [beq_iff_eq]; omega
                  have HX := Lib.hid (HST.out.trans ((if_neg (fun h => hkb h.2.2)).trans (congrArg (· ++ hexL x.toNat) (if_neg (fun h => h.2.elim hl3 (fun g => g he))))))
                  clear HST he
                  go_wp2_with fail
                  refine (rhex_int x w6 hv.1 hv.2).mono ?_
                  rintro e w7 ⟨rfl, rfl⟩
                  go_wp2_with fail
                  go_round
                  case rel => exact ⟨k + 1, by omega, by go_num, by rw [HX.out, ← a3.out]⟩
                  case measure => simp [intOf]; omega
                · have heb : ((k : Int) != (b : Int) + l) = true := by simp; omega
                  have hec : ((k : Int) == (b : Int) + l) = false := by simp; omega
                  have HX := Lib.hid (HST.out.trans ((if_neg (fun h => hkb h.2.2)).trans (congrArg (· ++ hexL x.toNat) (if_pos ⟨hk0, .inr he⟩))))
                  clear HST he
                  go_wp2_with fail
                  refine (rhex_int x w6 hv.1 hv.2).mono ?_
                  rintro e w7 ⟨rfl, rfl⟩
                  go_wp2_with fail
                  go_round
                  case rel => exact ⟨k + 1, by omega, by go_num, by rw [HX.out, ← a4.out, ← a1.out]; rfl⟩
                  case measure => simp [intOf]; omega
            · by_cases hk0 : 0 < k
              · have heb : ((k : Int) != (b : Int) + l) = true := by simp; omega
                have hec : ((k : Int) == (b : Int) + l) = false := by simp; omega
                have HX := Lib.hid (HST.out.trans ((if_neg (fun h => hbk h.2.1)).trans (congrArg (· ++ hexL x.toNat) (if_pos ⟨hk0, .inr (by omega)⟩))))
                clear HST
                go_wp2_with fail
                refine (rhex_int x w6 hv.1 hv.2).mono ?_
                rintro e w7 ⟨rfl, rfl⟩
                go_wp2_with fail
                go_round
                case rel => exact ⟨k + 1, by omega, by go_num, by rw [HX.out, ← a4.out, ← a1.out]; rfl⟩
                case measure => simp [intOf]; omega
              · have hk1 : ¬ (0 : Int) < k := by omega
                have HX := Lib.hid (HST.out.trans ((if_neg (fun h => hbk h.2.1)).trans (congrArg (· ++ hexL x.toNat) (if_neg (fun h => hk0 h.1)))))
                clear HST
                go_wp2_with fail
                refine (rhex_int x w6 hv.1 hv.2).mono ?_
                rintro e w7 ⟨rfl, rfl⟩
                go_wp2_with fail
                go_round
                case rel => exact ⟨k + 1, by omega, by go_num, by rw [HX.out, ← a3.out]⟩
                case measure => simp [intOf]; omega
          · have hl3 : l < 2 := by omega
            by_cases hk0 : 0 < k
            · have HX := Lib.hid (HST.out.trans ((if_neg (fun h => hl2 h.1)).trans (congrArg (· ++ hexL x.toNat) (if_pos ⟨hk0, .inl hl3⟩))))
              clear HST
              go_wp2_with fail
              refine (rhex_int x w6 hv.1 hv.2).mono ?_
              rintro e w7 ⟨rfl, rfl⟩
              go_wp2_with fail
              go_round
              case rel => exact ⟨k + 1, by omega, by go_num, by rw [HX.out, ← a4.out, ← a1.out]; rfl⟩
              case measure => simp [intOf]; omega
            · have hk1 : ¬ (0 : Int) < k := by omega
              have HX := Lib.hid (HST.out.trans ((if_neg (fun h => hl2 h.1)).trans (congrArg (· ++ hexL x.toNat) (if_neg (fun h => hk0 h.1)))))
              clear HST
              go_wp2_with fail
              refine (rhex_int x w6 hv.1 hv.2).mono ?_
              rintro e w7 ⟨rfl, rfl⟩
              go_wp2_with fail
              go_round
              case rel => exact ⟨k + 1, by omega, by go_num, by rw [HX.out, ← a3.out]⟩
              case measure => simp [intOf]; omega
        · obtain rfl : k = 8 := by omega
          go_wp2_with fail
          go_ret
          exact ⟨by rw [HT.out]; rfl, hB2⟩
end Go.Proofs.YtjafjapnmffohaaDoor

namespace Go.Proofs.YtjafjapnmffohaaDoor

theorem lrN_congr {z z' : Nat → Bool} : ∀ k, (∀ i, i < k → z i = z' i) → lrN z k = lrN z' k
  | 0, _ => rfl
  | k + 1, h => by rw [lrN, lrN, lrN_congr k (fun i hi => h i (by omega)), h k (by omega)]
theorem zrF_congr {z z' : Nat → Bool} : ∀ f a, (∀ i, i < a + f → z i = z' i) → zrF z f a = zrF z' f a
  | 0, _, _ => rfl
  | f + 1, a, h => by rw [zrF, zrF, zrF_congr f (a + 1) (fun i hi => h i (by omega)), h a (by omega)]
theorem zrN_congr {z z' : Nat → Bool} (h : ∀ i, i < 8 → z i = z' i) (a : Nat) : zrN z a = zrN z' a := by
  unfold zrN
  rcases Nat.lt_or_ge a 8 with ha | ha
  · exact zrF_congr _ _ (fun i hi => h i (by omega))
  · rw [show 8 - a = 0 by omega]; rfl
theorem bestF_congr {z z' : Nat → Bool} (h : ∀ i, i < 8 → z i = z' i) : ∀ k, bestF z k = bestF z' k
  | 0 => rfl
  | k + 1 => by rw [bestF, bestF, bestF_congr h k, zrN_congr h, zrN_congr h]
def zOf (l : List Bool) : Nat → Bool := fun i => l.getD i false
theorem rows_tab : ∀ b0 b1 b2 b3 b4 b5 b6 b7 : Bool, (lrN (zOf [b0, b1, b2, b3, b4, b5, b6, b7]) 8).1 = bestF (zOf [b0, b1, b2, b3, b4, b5, b6, b7]) 7 ∧
    (lrN (zOf [b0, b1, b2, b3, b4, b5, b6, b7]) 8).2.1 = zrN (zOf [b0, b1, b2, b3, b4, b5, b6, b7]) (bestF (zOf [b0, b1, b2, b3, b4, b5, b6, b7]) 7) ∧
    (∀ i : Fin 8, (lrN (zOf [b0, b1, b2, b3, b4, b5, b6, b7]) 8).1 ≤ i.val → i.val < (lrN (zOf [b0, b1, b2, b3, b4, b5, b6, b7]) 8).1 + (lrN (zOf [b0, b1, b2, b3, b4, b5, b6, b7]) 8).2.1 → zOf [b0, b1, b2, b3, b4, b5, b6, b7] i.val = true) := by decide +kernel
theorem rows_same (z : Nat → Bool) : (lrN z 8).1 = bestF z 7 ∧ (lrN z 8).2.1 = zrN z (bestF z 7) ∧ ∀ i, (lrN z 8).1 ≤ i → i < (lrN z 8).1 + (lrN z 8).2.1 → z i = true := by
  have hz : ∀ i, i < 8 → z i = zOf [z 0, z 1, z 2, z 3, z 4, z 5, z 6, z 7] i := fun i hi => by
    match i, hi with
    | 0, _ => rfl
    | 1, _ => rfl
    | 2, _ => rfl
    | 3, _ => rfl
    | 4, _ => rfl
    | 5, _ => rfl
    | 6, _ => rfl
    | 7, _ => rfl
  have h := rows_tab (z 0) (z 1) (z 2) (z 3) (z 4) (z 5) (z 6) (z 7)
  have hle := lrN_le z 8
  rw [lrN_congr 8 hz] at hle ⊢
  rw [bestF_congr hz, zrN_congr hz]
  refine ⟨h.1, h.2.1, fun i h1 h2 => ?_⟩
  rw [hz i (by omega)]
  exact h.2.2 ⟨i, by omega⟩ h1 h2

theorem list8 {ws : List Int} (h : ws.length = 8) : ∃ a b c d e f g i, ws = [a, b, c, d, e, f, g, i] := by
  match ws, h with
  | [a, b, c, d, e, f, g, i], _ => exact ⟨a, b, c, d, e, f, g, i, rfl⟩
theorem spell_nil : spellL [] = [] := rfl
theorem spell_one (x : Int) : spellL [x] = hexL x.toNat := by simp [spellL, join_one]
theorem spell_cons (x y : Int) (r : List Int) : spellL (x :: y :: r) = hexL x.toNat ++ 58 :: spellL (y :: r) := by
  simp [spellL, join_cons2]

theorem text_small (ws : List Int) (h : ws.length = 8) (b l : Nat) (hl : l < 2) : rtx ws b l 8 = spellL ws := by
  obtain ⟨w0, w1, w2, w3, w4, w5, w6, w7, rfl⟩ := list8 h
  have h2 : ¬ 2 ≤ l := by omega
  simp [rtx, spell_cons, spell_one, h2, hl]
theorem text_great (ws : List Int) (h : ws.length = 8) (b l : Nat) (hl : 2 ≤ l) (hb : b + l ≤ 8) : rtx ws b l 8 = spellL (ws.take b) ++ [58, 58] ++ spellL (ws.drop (b + l)) := by
  obtain ⟨w0, w1, w2, w3, w4, w5, w6, w7, rfl⟩ := list8 h
  have h1 : l = 2 ∨ l = 3 ∨ l = 4 ∨ l = 5 ∨ l = 6 ∨ l = 7 ∨ l = 8 := by omega
  have h2 : b = 0 ∨ b = 1 ∨ b = 2 ∨ b = 3 ∨ b = 4 ∨ b = 5 ∨ b = 6 := by omega
  rcases h1 with rfl | rfl | rfl | rfl | rfl | rfl | rfl <;> rcases h2 with rfl | rfl | rfl | rfl | rfl | rfl | rfl <;> first | omega | simp [rtx, spell_cons, spell_one, spell_nil]
theorem text_same (s : List Int) : textL s = rtextL s := by
  have h := rows_same (isZ (wordsL s))
  have hle := lrN_le (isZ (wordsL s)) 8
  unfold textL rtextL textW
  rw [← h.2.1, ← h.1]
  split
  · rename_i hl
    rw [text_small (wordsL s) (wordsL_length s) _ _ hl]
  · rename_i hl
    rw [text_great (wordsL s) (wordsL_length s) _ _ (by omega) hle.2.2.2]
end Go.Proofs.YtjafjapnmffohaaDoor

namespace Go.Proofs.YtjafjapnmffohaaDoor

/-- the numbers of groups, the letters g ahead -/
def parse : List UInt8 → List UInt8 → Option (List Int)
  | g, [] => (rdG g).map fun n => [(n : Int)]
  | g, b :: r => if b.toNat = 58 then (match rdG g with
    | none => none
    | some n => (parse [] r).map ((n : Int) :: ·)) else parse (g ++ [b]) r
def cols : List UInt8 → Nat
  | [] => 0
  | b :: r => (if b.toNat = 58 then 1 else 0) + cols r
theorem cols_le (l : List UInt8) : cols l ≤ l.length := by
  induction l with
  | nil => exact Nat.le_refl _
  | cons b r ih => rw [cols, List.length_cons]; split <;> omega
theorem digV_58 : digV 58 = none := by decide

/-- letters that no more letters make a group -/
def Bad (g : List UInt8) : Prop := ∀ t, rdG (g ++ t) = none
theorem rdAcc_append (g t : List UInt8) : ∀ n, rdAcc n (g ++ t) = (rdAcc n g).bind fun m => rdAcc m t := by
  induction g with
  | nil => intro n; rfl
  | cons b r ih =>
    intro n
    rw [List.cons_append, rdAcc, rdAcc]
    cases digV b.toNat with
    | none => rfl
    | some d => exact ih _
theorem bad_long {g : List UInt8} (h : 4 < g.length) : Bad g := fun t => by
  unfold rdG
  rw [if_pos (.inr (by rw [List.length_append]; omega))]
theorem bad_letter {g : List UInt8} {b : UInt8} (h : digV b.toNat = none) : Bad (g ++ [b]) := fun t => by
  unfold rdG
  split
  · rfl
  · rw [rdAcc_append, rdAcc_append]
    cases rdAcc 0 g with
    | none => rfl
    | some n => show ((rdAcc n [b]).bind _) = none; rw [rdAcc, h]; rfl
theorem parse_bad : ∀ (r g : List UInt8), Bad g → parse g r = none
  | [], g, h => by
    rw [parse]
    have := h []
    rw [List.append_nil] at this
    rw [this]; rfl
  | b :: r, g, h => by
    rw [parse]
    have h0 := h []
    rw [List.append_nil] at h0
    split
    · rw [h0]
    · exact parse_bad r (g ++ [b]) (fun t => by rw [List.append_assoc]; exact h _)

theorem rdG_some {g : List UInt8} {n : Nat} (h0 : 0 < g.length) (h4 : g.length ≤ 4) (h : rdAcc 0 g = some n) : rdG g = some n := by
  unfold rdG
  rw [if_neg (fun k => by
    rcases k with k | k
    · rw [k] at h0; exact absurd h0 (by simp)
    · omega), h]

theorem scan_parse : ∀ (l g : List UInt8) (n long : Nat) (out : List Int), g.length = long → long ≤ 4 → rdAcc 0 g = some n → ¬ (long = 0 ∧ l = []) → scanG n long out l = (parse g l).map (out ++ ·)
  | [], g, n, long, out, hl, h4, hr, hne => by
    have h0 : ¬ long = 0 := fun h => hne ⟨h, rfl⟩
    rw [scanG, if_neg h0, parse, rdG_some (by omega) (by omega) hr]
    rfl
  | b :: r, g, n, long, out, hl, h4, hr, hne => by
    rw [scanG, parse]
    by_cases h58 : b.toNat = 58
    · rw [if_pos h58, if_pos h58]
      by_cases h0 : long = 0
      · rw [if_pos (.inl h0)]
        have : g = [] := List.eq_nil_of_length_eq_zero (by omega)
        subst this
        rfl
      · rw [rdG_some (by omega) (by omega) hr]
        by_cases hr0 : r = []
        · rw [if_pos (.inr hr0), hr0]
          rfl
        · rw [if_neg (fun k => k.elim h0 hr0), scan_parse r [] 0 0 (out ++ [(n : Int)]) rfl (by omega) rfl (fun k => hr0 k.2)]
          simp only [Option.map_map]
          congr 1
          funext x
          simp
    · rw [if_neg h58, if_neg h58]
      cases hd : digV b.toNat with
      | none => rw [parse_bad r (g ++ [b]) (bad_letter hd)]; rfl
      | some d =>
        by_cases hl4 : long = 4
        · rw [parse_bad r (g ++ [b]) (bad_long (by simp; omega))]
          exact if_pos hl4
        · have h1 : rdAcc 0 (g ++ [b]) = some (n * 16 + d) := by
            rw [rdAcc_append, hr]
            show rdAcc n [b] = _
            rw [rdAcc, hd]; rfl
          rw [← scan_parse r (g ++ [b]) (n * 16 + d) (long + 1) out (by simp; omega) (by omega) h1 (fun k => by omega)]
          exact if_neg hl4
theorem scan_is (l : List UInt8) (h : l ≠ []) : scanG 0 0 [] l = parse [] l := by
  rw [scan_parse l [] 0 0 [] rfl (by omega) rfl (fun k => h k.2)]
  simp
theorem parse_length : ∀ (l g : List UInt8) (xs : List Int), parse g l = some xs → xs.length = cols l + 1
  | [], g, xs, h => by
    rw [parse] at h
    cases hq : rdG g with
    | none => rw [hq] at h; cases h
    | some n => rw [hq] at h; obtain rfl : [(n : Int)] = xs := Option.some.inj h; rfl
  | b :: r, g, xs, h => by
    rw [parse] at h
    rw [cols]
    split at h
    · rename_i h58
      rw [if_pos h58]
      cases hq : rdG g with
      | none => rw [hq] at h; cases h
      | some n =>
        rw [hq] at h
        cases hp : parse [] r with
        | none => rw [hp] at h; cases h
        | some ys =>
          rw [hp] at h
          obtain rfl : (n : Int) :: ys = xs := Option.some.inj h
          have := parse_length r [] ys hp
          rw [List.length_cons]; omega
    · rename_i h58
      rw [if_neg h58]
      have := parse_length r (g ++ [b]) xs h
      omega

/-- a text ahead of its first colon, and what is behind it -/
theorem parse_free : ∀ (p g r : List UInt8), cols p = 0 → parse g (p ++ r) = parse (g ++ p) r
  | [], g, r, _ => by rw [List.nil_append, List.append_nil]
  | b :: p, g, r, h => by
    rw [cols] at h
    have h58 : ¬ b.toNat = 58 := fun k => by rw [if_pos k] at h; omega
    rw [List.cons_append, parse, if_neg h58, parse_free p (g ++ [b]) r (by rw [if_neg h58] at h; omega), List.append_assoc]
    rfl
theorem cols_append (p r : List UInt8) : cols (p ++ r) = cols p + cols r := by
  induction p with
  | nil => simp [cols]
  | cons b p ih => rw [List.cons_append, cols, cols, ih]; omega
theorem rdG_cols {g : List UInt8} (h : 0 < cols g) : rdG g = none := by
  have key : ∀ (g : List UInt8) n, 0 < cols g → rdAcc n g = none := fun g => by
    induction g with
    | nil => intro n h; exact absurd h (by decide)
    | cons b r ih =>
      intro n h
      rw [rdAcc]
      by_cases h58 : b.toNat = 58
      · rw [h58, digV_58]
      · rw [cols, if_neg h58] at h
        cases digV b.toNat with
        | none => rfl
        | some d => exact ih _ (by omega)
  unfold rdG
  split
  · rfl
  · exact key g 0 h
theorem parts_at : ∀ (l : List UInt8), (cols l = 0 ∧ Lib.index l [58] = -1) ∨ ∃ p r, l = p ++ 58 :: r ∧ cols p = 0 ∧ Lib.index l [58] = (p.length : Int) := by
  intro l
  by_cases h : cols l = 0
  · refine .inl ⟨h, Lib.index_none fun j _ => ?_⟩
    cases hq : Lib.occAt l [58] j with
    | false => rfl
    | true =>
      obtain ⟨t, ht⟩ := List.isPrefixOf_iff_prefix.1 hq
      have e : l = l.take j ++ (58 :: t) := by
        have := List.take_append_drop j l
        rw [← ht] at this
        exact this.symm
      rw [e, cols_append, cols] at h
      simp at h
  · have key : ∀ l : List UInt8, 0 < cols l → ∃ p r, l = p ++ 58 :: r ∧ cols p = 0 := fun l => by
      induction l with
      | nil => intro h; exact absurd h (by decide)
      | cons b r ih =>
        intro h
        by_cases h58 : b.toNat = 58
        · exact ⟨[], r, by rw [show b = 58 from UInt8.toNat_inj.1 h58]; rfl, rfl⟩
        · rw [cols, if_neg h58] at h
          obtain ⟨p, r', rfl, hp⟩ := ih (by omega)
          exact ⟨b :: p, r', rfl, by rw [cols, if_neg h58, hp]⟩
    obtain ⟨p, r, rfl, hp⟩ := key l (by omega)
    refine .inr ⟨p, r, rfl, hp, Lib.index_first (by simp) ?_ fun j hj => ?_⟩
    · unfold Lib.occAt
      rw [List.drop_left']
      · rfl
      · rfl
    · cases hq : Lib.occAt (p ++ 58 :: r) [58] j with
      | false => rfl
      | true =>
        have := Lib.occAt_head rfl hq
        rw [List.getElem?_append_left hj] at this
        have hm : (58 : UInt8) ∈ p := List.mem_of_getElem? this
        obtain ⟨x, y, rfl⟩ := List.append_of_mem hm
        rw [cols_append, cols] at hp
        simp at hp
theorem split_parse : ∀ (k : Nat) (l : List UInt8), rdList (Lib.splitK [58] 0 k l) = if cols l ≤ k then parse [] l else none
  | 0, l => by
    rw [Lib.splitK, rdList]
    by_cases h : cols l = 0
    · rw [if_pos (by omega)]
      have := parse_free l [] [] h
      rw [List.append_nil, List.nil_append] at this
      rw [this, parse]
      cases rdG l <;> rfl
    · rw [if_neg (by omega), rdG_cols (by omega)]
  | k + 1, l => by
    rcases parts_at l with ⟨h, hi⟩ | ⟨p, r, rfl, hp, hi⟩
    · rw [Lib.splitK, hi, if_pos (by rfl), if_pos (by omega), rdList]
      have := parse_free l [] [] h
      rw [List.append_nil, List.nil_append] at this
      rw [this, parse]
      cases rdG l <;> rfl
    · have hne : ¬ (((p.length : Int) == -1) = true) := by simp
      rw [Lib.splitK, hi, if_neg hne, Int.toNat_natCast, Nat.add_zero]
      have e1 : (p ++ 58 :: r).take p.length = p := List.take_left' rfl
      have e2 : (p ++ 58 :: r).drop (p.length + ([58] : List UInt8).length) = r := by
        rw [show p.length + ([58] : List UInt8).length = (p ++ [58]).length by simp, show p ++ 58 :: r = (p ++ [58]) ++ r by simp]
        exact List.drop_left' rfl
      rw [e1, e2, rdList, split_parse k r, parse_free p [] _ hp, List.nil_append, parse, if_pos (show (58 : UInt8).toNat = 58 from rfl), cols_append, cols, hp, if_pos (show (58 : UInt8).toNat = 58 from rfl)]
      cases rdG p with
      | none =>
        show none = _
        by_cases hc : 0 + (1 + cols r) ≤ k + 1
        · rw [if_pos hc]
        · rw [if_neg hc]
      | some n =>
        by_cases hc : cols r ≤ k
        · rw [if_pos hc, if_pos (by omega)]
        · rw [if_neg hc, if_neg (by omega)]; rfl
theorem groups_is (l : List UInt8) (h : l ≠ []) : rdGroups l = if cols l ≤ 8 then parse [] l else none := by
  unfold rdGroups Lib.splitN
  rw [if_neg h, split_parse]
  have := cols_le l
  have hl : 0 < l.length := List.length_pos_iff.2 h
  by_cases hc : cols l ≤ 8
  · rw [if_pos hc, if_pos (by omega)]
  · rw [if_neg hc, if_neg (by omega)]
theorem groups_scan (l : List UInt8) : rdGroups l = scanG 0 0 [] l ∨ (rdGroups l = none ∧ ∀ xs, scanG 0 0 [] l = some xs → 9 < xs.length) := by
  by_cases h : l = []
  · subst h; exact .inl rfl
  · rw [groups_is l h, scan_is l h]
    by_cases hc : cols l ≤ 8
    · rw [if_pos hc]; exact .inl rfl
    · rw [if_neg hc]
      exact .inr ⟨rfl, fun xs hx => by have := parse_length l [] xs hx; omega⟩
theorem read_same (l : List UInt8) : readL l = rreadL l := by
  unfold readL rreadL
  have hfalse : (Lib.cut l [58, 58]).2.2 = false → (Lib.cut l [58, 58]).2.1 = [] := by
    unfold Lib.cut
    split
    · intro h; cases h
    · intro _; rfl
  generalize (Lib.cut l [58, 58]).1 = l1 at *
  generalize (Lib.cut l [58, 58]).2.1 = l2 at *
  generalize (Lib.cut l [58, 58]).2.2 = sh at *
  cases sh with
  | true =>
    unfold readP rreadP
    rw [if_pos rfl]
    rcases groups_scan l1 with h1 | ⟨h1, h1'⟩ <;> rcases groups_scan l2 with h2 | ⟨h2, h2'⟩
    · rw [h1, h2]
      cases scanG 0 0 [] l1 with
      | none => rfl
      | some x =>
        cases scanG 0 0 [] l2 with
        | none => rfl
        | some y => simp
    · rw [h2]
      cases hq : scanG 0 0 [] l2 with
      | none => rw [h1]; cases scanG 0 0 [] l1 <;> rfl
      | some y =>
        have := h2' y hq
        rw [h1]
        cases scanG 0 0 [] l1 with
        | none => rfl
        | some x => exact (if_neg (by omega)).symm
    · rw [h1]
      cases hq : scanG 0 0 [] l1 with
      | none => rfl
      | some x =>
        have := h1' x hq
        cases scanG 0 0 [] l2 with
        | none => rfl
        | some y => exact (if_neg (by omega)).symm
    · rw [h1]
      cases hq : scanG 0 0 [] l1 with
      | none => rfl
      | some x =>
        have := h1' x hq
        cases scanG 0 0 [] l2 with
        | none => rfl
        | some y => exact (if_neg (by omega)).symm
  | false =>
    obtain rfl := hfalse rfl
    unfold readP rreadP
    rw [if_neg (by decide), show rdGroups [] = some [] from rfl]
    rcases groups_scan l1 with h1 | ⟨h1, h1'⟩
    · rw [h1]
      cases scanG 0 0 [] l1 with
      | none => rfl
      | some x =>
        by_cases h8 : x.length = 8
        · simp [h8]
        · simp [h8]
    · rw [h1]
      cases hq : scanG 0 0 [] l1 with
      | none => rfl
      | some x =>
        have := h1' x hq
        exact (if_neg (by omega)).symm
end Go.Proofs.YtjafjapnmffohaaDoor

namespace Go.Proofs.YtjafjapnmffohaaDoor

theorem hexD_58 (d : Nat) (h : d < 16) : ¬ (hexD d).toNat = 58 := by
  have k : ∀ n : Fin 16, ¬ (hexD n.val).toNat = 58 := by decide
  exact k ⟨d, h⟩
theorem hexF_cols (f : Nat) : ∀ n, cols (hexF f n) = 0 := by
  induction f with
  | zero => intro n; rfl
  | succ f ih =>
    intro n
    rw [hexF]
    split
    · rename_i h; rw [cols, if_neg (hexD_58 n h)]; rfl
    · rw [cols_append, ih, cols, if_neg (hexD_58 (n % 16) (by omega))]; rfl
theorem hexL_cols (n : Nat) : cols (hexL n) = 0 := hexF_cols 5 n
theorem hexF_read (f : Nat) : ∀ n, n < 16 ^ f → 0 < f → rdAcc 0 (hexF f n) = some n := by
  induction f with
  | zero => intro n _ h; omega
  | succ f ih =>
    intro n hn _
    rw [hexF]
    split
    · rename_i h
      rw [rdAcc, (digV_hexD n h).1]
      show rdAcc (0 * 16 + n) [] = _
      rw [rdAcc]; congr 1; omega
    · rename_i h
      have hf : 0 < f := by
        cases f with
        | zero => simp at hn; omega
        | succ _ => omega
      rw [rdAcc_append, ih (n / 16) (by rw [Nat.pow_succ] at hn; omega) hf]
      show rdAcc (n / 16) [hexD (n % 16)] = _
      rw [rdAcc, (digV_hexD (n % 16) (by omega)).1]
      show rdAcc (n / 16 * 16 + n % 16) [] = _
      rw [rdAcc]; congr 1; omega
theorem hexF_pos (f n : Nat) (h : 0 < f) : 0 < (hexF f n).length := by
  cases f with
  | zero => omega
  | succ f => rw [hexF]; split <;> simp
theorem hexL_four (n : Nat) (h : n < 65536) : 0 < (hexL n).length ∧ (hexL n).length ≤ 4 := by
  refine ⟨hexF_pos 5 n (by omega), ?_⟩
  unfold hexL
  rw [hexF_fuel 5 4 n (by omega) (by omega) (by omega) (by omega)]
  exact hexF_length 4 n
theorem rdG_hex (n : Nat) (h : n < 65536) : rdG (hexL n) = some n :=
  rdG_some (hexL_four n h).1 (hexL_four n h).2 (hexF_read 5 n (by omega) (by omega))

theorem parse_spell : ∀ (xs : List Int), xs ≠ [] → (∀ x ∈ xs, 0 ≤ x ∧ x < 65536) → parse [] (spellL xs) = some xs
  | [], h, _ => absurd rfl h
  | [x], _, hr => by
    have hx := hr x (by simp)
    have := parse_free (hexL x.toNat) [] [] (hexL_cols _)
    rw [List.append_nil, List.nil_append] at this
    rw [spell_one, this, parse, rdG_hex _ (by omega)]
    show some [((x.toNat : Nat) : Int)] = _
    rw [Int.toNat_of_nonneg hx.1]
  | x :: y :: r, _, hr => by
    have hx := hr x (by simp)
    rw [spell_cons, parse_free _ [] _ (hexL_cols _), List.nil_append, parse, if_pos (show (58 : UInt8).toNat = 58 from rfl), rdG_hex _ (by omega), parse_spell (y :: r) (by simp) (fun z hz => hr z (by simp [hz]))]
    show some (((x.toNat : Nat) : Int) :: y :: r) = _
    rw [Int.toNat_of_nonneg hx.1]
theorem spell_pos : ∀ (xs : List Int), xs ≠ [] → ∃ b t, spellL xs = b :: t ∧ ¬ b.toNat = 58
  | [], h => absurd rfl h
  | x :: r, _ => by
    have hp := hexF_pos 5 x.toNat (by omega)
    have hc := hexL_cols x.toNat
    obtain ⟨b, t, e⟩ : ∃ b t, hexL x.toNat = b :: t := by
      cases hq : hexL x.toNat with
      | nil => unfold hexL at hq; rw [hq] at hp; simp at hp
      | cons b t => exact ⟨b, t, rfl⟩
    have h58 : ¬ b.toNat = 58 := fun k => by rw [e, cols, if_pos k] at hc; omega
    cases r with
    | nil => exact ⟨b, t, by rw [spell_one, e], h58⟩
    | cons y r => exact ⟨b, t ++ 58 :: spellL (y :: r), by rw [spell_cons, e]; rfl, h58⟩
theorem groups_spell (xs : List Int) (h : xs.length ≤ 9) (hr : ∀ x ∈ xs, 0 ≤ x ∧ x < 65536) : rdGroups (spellL xs) = some xs := by
  by_cases h0 : xs = []
  · subst h0; rfl
  · obtain ⟨b, t, e, _⟩ := spell_pos xs h0
    have hp := parse_spell xs h0 hr
    have hl := parse_length _ _ _ hp
    rw [groups_is _ (by rw [e]; simp), if_pos (by omega), hp]

theorem occ_shift (P Q sub : List UInt8) (i : Nat) : Lib.occAt (P ++ Q) sub (P.length + i) = Lib.occAt Q sub i := by
  unfold Lib.occAt
  rw [List.drop_append, List.drop_eq_nil_of_le (by omega), List.nil_append, show P.length + i - P.length = i by omega]
/-- no colons stand together, nor at the end -/
def Fr (A : List UInt8) : Prop := ∀ t j, j < A.length → Lib.occAt (A ++ t) [58, 58] j = false
theorem occ_first {b : UInt8} {t : List UInt8} (h : ¬ b.toNat = 58) : Lib.occAt (b :: t) [58, 58] 0 = false := by
  have : (58 == b) = false := by
    rw [beq_eq_false_iff_ne]
    intro e
    exact h (by rw [← e]; rfl)
  simp [Lib.occAt, List.isPrefixOf, this]
theorem fr_free {A : List UInt8} (h : cols A = 0) : Fr A := fun t j hj => by
  obtain ⟨P, b, Q, rfl, hP⟩ : ∃ P b Q, A = P ++ b :: Q ∧ P.length = j := ⟨A.take j, A[j], A.drop (j + 1), by rw [← List.drop_eq_getElem_cons hj, List.take_append_drop], by simp; omega⟩
  have h58 : ¬ b.toNat = 58 := fun k => by rw [cols_append, cols, if_pos k] at h; omega
  have := occ_shift P ((b :: Q) ++ t) [58, 58] 0
  rw [List.append_assoc, ← hP, ← Nat.add_zero P.length, this]
  exact occ_first h58
theorem fr_spell : ∀ (xs : List Int), Fr (spellL xs)
  | [] => fun t j hj => absurd hj (by rw [spell_nil]; simp)
  | [x] => by rw [spell_one]; exact fr_free (hexL_cols _)
  | x :: y :: r => fun t j hj => by
    rw [spell_cons] at hj ⊢
    rcases Nat.lt_or_ge j (hexL x.toNat).length with h | h
    · rw [List.append_assoc]; exact fr_free (hexL_cols _) _ j h
    · obtain ⟨i, rfl⟩ : ∃ i, j = (hexL x.toNat).length + i := ⟨j - (hexL x.toNat).length, by omega⟩
      rw [List.append_assoc, occ_shift]
      cases i with
      | zero =>
        obtain ⟨b, u, e, h58⟩ := spell_pos (y :: r) (by simp)
        rw [e]
        have : (58 == b) = false := by
          rw [beq_eq_false_iff_ne]
          intro e
          exact h58 (by rw [← e]; rfl)
        simp [Lib.occAt, List.isPrefixOf, this]
      | succ i =>
        have := occ_shift [58] (spellL (y :: r) ++ t) [58, 58] i
        rw [List.length_singleton, Nat.add_comm] at this
        rw [show (58 :: spellL (y :: r)) ++ t = [58] ++ (spellL (y :: r) ++ t) from rfl, this]
        exact fr_spell (y :: r) t i (by simp at hj; omega)
theorem cut_plain {A : List UInt8} (h : Fr A) : Lib.cut A [58, 58] = (A, [], false) := by
  have hi : Lib.index A [58, 58] = -1 := Lib.index_none fun j _ => by
    rcases Nat.lt_or_ge j A.length with hj | hj
    · have := h [] j hj
      rwa [List.append_nil] at this
    · unfold Lib.occAt
      rw [List.drop_eq_nil_of_le hj]
      rfl
  unfold Lib.cut
  rw [hi, if_neg (by omega)]
theorem cut_double {A B : List UInt8} (h : Fr A) : Lib.cut (A ++ [58, 58] ++ B) [58, 58] = (A, B, true) := by
  have hi : Lib.index (A ++ [58, 58] ++ B) [58, 58] = (A.length : Int) := by
    refine Lib.index_first (by simp) ?_ fun j hj => ?_
    · have := occ_shift A ([58, 58] ++ B) [58, 58] 0
      rw [Nat.add_zero, ← List.append_assoc] at this
      rw [this]; rfl
    · rw [List.append_assoc]; exact h _ j hj
  unfold Lib.cut
  rw [hi, if_pos (by omega), Int.toNat_natCast]
  have e1 : (A ++ [58, 58] ++ B).take A.length = A := by rw [List.append_assoc]; exact List.take_left' rfl
  have e2 : (A ++ [58, 58] ++ B).drop (A.length + ([58, 58] : List UInt8).length) = B := by
    rw [show A.length + ([58, 58] : List UInt8).length = (A ++ [58, 58]).length by simp]
    exact List.drop_left' rfl
  rw [e1, e2]

theorem of_words {s : List Int} (h : s.length = 16) (vs : AllB s) : ofL (wordsL s) = s := by
  apply List.ext_getElem?
  intro i
  by_cases hi : i < 16
  · have e : (ofL (wordsL s))[i]? = some (ofAt (wordsL s) i) := by simp [ofL, hi]
    have e2 : s[i]? = some (s.getD i 0) := by simp [List.getD, show i < s.length by omega]
    rw [e, e2]
    congr 1
    unfold ofAt
    rw [wordsL_getD s (i / 2) (by omega)]
    unfold num2
    have v0 := vs.getD (2 * (i / 2))
    have v1 := vs.getD (2 * (i / 2) + 1)
    split
    · rename_i h2
      rw [show 2 * (i / 2) = i by omega] at v0 v1 ⊢
      omega
    · rename_i h2
      rw [show 2 * (i / 2) + 1 = i by omega] at v1 ⊢
      omega
  · rw [List.getElem?_eq_none (by rw [ofL_length]; omega), List.getElem?_eq_none (by omega)]
theorem mem_range {ws : List Int} (h : ∀ i, 0 ≤ ws.getD i 0 ∧ ws.getD i 0 < 65536) : ∀ x ∈ ws, 0 ≤ x ∧ x < 65536 := fun x hx => by
  obtain ⟨i, hi, rfl⟩ := List.getElem_of_mem hx
  have := h i
  have e : ws.getD i 0 = ws[i] := by simp [List.getD, hi]
  rwa [e] at this
theorem zeros_between {ws : List Int} {a n : Nat} (h8 : ws.length = 8) (han : a + n ≤ 8) (hz : ∀ i, a ≤ i → i < a + n → isZ ws i = true) : ws.take a ++ (List.replicate n 0 ++ ws.drop (a + n)) = ws := by
  have e : (ws.drop a).take n = List.replicate n 0 := by
    apply List.ext_getElem?
    intro i
    by_cases hi : i < n
    · have h1 := hz (a + i) (by omega) (by omega)
      unfold isZ at h1
      rw [beq_iff_eq] at h1
      simp only [List.getElem?_take, hi, if_true, List.getElem?_drop, List.getElem?_replicate]
      simp only [List.getD] at h1
      have h2 : a + i < ws.length := by omega
      rw [List.getElem?_eq_getElem h2] at h1 ⊢
      exact congrArg some h1
    · rw [List.getElem?_eq_none (by simp; omega), List.getElem?_eq_none (by simp; omega)]
  rw [← e]
  have e2 : (ws.drop a).take n ++ ws.drop (a + n) = ws.drop a := by
    rw [← List.drop_drop]
    exact List.take_append_drop n (ws.drop a)
  rw [e2, List.take_append_drop]
theorem read_text {s : List Int} (h : s.length = 16) (vs : AllB s) : readL (textL s) = some s := by
  have hw := wordsL_length s
  have hr := mem_range (words_range vs)
  have hof := of_words h vs
  have hrow := rows_same (isZ (wordsL s))
  have hle := lrN_le (isZ (wordsL s)) 8
  unfold readL textL textW
  generalize (lrN (isZ (wordsL s)) 8).1 = a at *
  generalize (lrN (isZ (wordsL s)) 8).2.1 = n at *
  generalize wordsL s = ws at *
  by_cases hn : n < 2
  · rw [if_pos hn, cut_plain (fr_spell ws), groups_spell ws (by omega) hr]
    show readP false (some ws) (some []) = _
    unfold readP
    simp [hw, hof]
  · rw [if_neg hn, cut_double (fr_spell (ws.take a)), groups_spell (ws.take a) (by simp; omega) (fun x hx => hr x (List.mem_of_mem_take hx)), groups_spell (ws.drop (a + n)) (by simp; omega) (fun x hx => hr x (List.mem_of_mem_drop hx))]
    have e1 : (ws.take a).length = a := by simp; omega
    have e2 : (ws.drop (a + n)).length = 8 - (a + n) := by simp [hw]
    show readP true (some (ws.take a)) (some (ws.drop (a + n))) = _
    unfold readP
    dsimp only
    rw [if_pos (by rw [if_pos rfl, e1, e2]; omega), e1, e2, show 8 - a - (8 - (a + n)) = n by omega, zeros_between hw hle.2.2.2 hrow.2.2, hof]
theorem text_inj {s d : List Int} (hs : s.length = 16) (hd : d.length = 16) (vs : AllB s) (vd : AllB d) : (strL (textL s)).toList = (strL (textL d)).toList ↔ s = d := by
  constructor
  · intro h
    have e : textL s = textL d := by
      rw [ByteArray.toList_eq, ByteArray.toList_eq] at h
      simpa [strL] using h
    have h1 := read_text hs vs
    rw [e, read_text hd vd] at h1
    exact (Option.some.inj h1).symm
  · intro h; rw [h]
end Go.Proofs.YtjafjapnmffohaaDoor

namespace Go.Proofs.YtjafjapnmffohaaDoor

def bt (x : Int) (j : Nat) : Bool := x / 2 ^ (7 - j) % 2 == 1
def sumB (f : Nat → Bool) : Nat → Int
  | 0 => 0
  | k + 1 => sumB f k + if f k then 2 ^ (7 - k) else 0
theorem sumB_congr {f g : Nat → Bool} : ∀ k, (∀ j, j < k → f j = g j) → sumB f k = sumB g k
  | 0, _ => rfl
  | k + 1, h => by rw [sumB, sumB, sumB_congr k (fun j hj => h j (by omega)), h k (by omega)]
theorem pre_tab : ∀ x : Fin 256, ∀ k : Fin 9, pre8 (x.val : Int) k.val = sumB (bt (x.val : Int)) k.val ∧ pre8 (pre8 (x.val : Int) k.val) k.val = pre8 (x.val : Int) k.val ∧ 0 ≤ pre8 (x.val : Int) k.val ∧ pre8 (x.val : Int) k.val < 256 := by decide +kernel
theorem pre_bits : ∀ x : Fin 256, ∀ k : Fin 9, ∀ j : Fin 8, j.val < k.val → bt (pre8 (x.val : Int) k.val) j.val = bt (x.val : Int) j.val := by decide +kernel
section
variable {x y : Int} {k : Nat}
theorem pre_facts (h0 : 0 ≤ x) (h1 : x < 256) (hk : k ≤ 8) : pre8 x k = sumB (bt x) k ∧ pre8 (pre8 x k) k = pre8 x k ∧ 0 ≤ pre8 x k ∧ pre8 x k < 256 := by
  have h := pre_tab ⟨x.toNat, by omega⟩ ⟨k, by omega⟩
  simp only [Int.toNat_of_nonneg h0] at h
  exact h
theorem pre_bit (h0 : 0 ≤ x) (h1 : x < 256) (hk : k ≤ 8) {j : Nat} (hj : j < k) : bt (pre8 x k) j = bt x j := by
  have h := pre_bits ⟨x.toNat, by omega⟩ ⟨k, by omega⟩ ⟨j, by omega⟩ hj
  simp only [Int.toNat_of_nonneg h0] at h
  exact h
theorem pre_iff (h0 : 0 ≤ x) (h1 : x < 256) (g0 : 0 ≤ y) (g1 : y < 256) (hk : k ≤ 8) : pre8 x k = pre8 y k ↔ ∀ j, j < k → bt x j = bt y j := by
  constructor
  · intro h j hj
    rw [← pre_bit h0 h1 hk hj, ← pre_bit g0 g1 hk hj, h]
  · intro h
    rw [(pre_facts h0 h1 hk).1, (pre_facts g0 g1 hk).1]
    exact sumB_congr k h
theorem pre_full (x : Int) : pre8 x 8 = x := by
  unfold pre8
  simp
end

theorem bitB_bt (s : List Int) (i : Nat) : bitB s i = bt (s.getD (i / 8) 0) (i % 8) := rfl
theorem keep_le (n : Int) (i : Nat) : keepN n i ≤ 8 := by unfold keepN; omega
theorem clamp_eq (n : Int) : clampN n = ((min n.toNat 128 : Nat) : Int) := by unfold clampN; split <;> (try split) <;> omega
theorem keep_iff (n : Int) (i j : Nat) (hj : j < 8) : j < keepN (clampN n) i ↔ 8 * i + j < min n.toNat 128 := by
  rw [clamp_eq]; unfold keepN; omega
theorem pref_all {s : List Int} (vs : AllB s) (n : Int) : AllB (prefL s n) := fun x hx => by
  obtain ⟨i, _, rfl⟩ := List.mem_map.1 hx
  have v := vs.getD i
  have := pre_facts v.1 v.2 (keep_le (clampN n) i)
  exact ⟨this.2.2.1, this.2.2.2⟩
theorem pref_ext {s d : List Int} {n m : Int} (h : ∀ i, i < 16 → (prefL s n).getD i 0 = (prefL d m).getD i 0) : prefL s n = prefL d m := by
  apply List.ext_getElem?
  intro i
  by_cases hi : i < 16
  · have := h i hi
    simp only [List.getD] at this
    have h1 : i < (prefL s n).length := by rw [prefL_length]; exact hi
    have h2 : i < (prefL d m).length := by rw [prefL_length]; exact hi
    rw [List.getElem?_eq_getElem h1, List.getElem?_eq_getElem h2] at this ⊢
    exact congrArg some this
  · rw [List.getElem?_eq_none (by rw [prefL_length]; omega), List.getElem?_eq_none (by rw [prefL_length]; omega)]
theorem pref_iff {s d : List Int} (vs : AllB s) (vd : AllB d) (n : Int) : prefL s n = prefL d n ↔ ∀ m, m < min n.toNat 128 → bitB s m = bitB d m := by
  constructor
  · intro h m hm
    have hi : m / 8 < 16 := by omega
    have e := congrArg (fun l => l.getD (m / 8) 0) h
    simp only [prefL_getD _ _ _ hi] at e
    have v := vs.getD (m / 8)
    have u := vd.getD (m / 8)
    exact (pre_iff v.1 v.2 u.1 u.2 (keep_le _ _)).1 e (m % 8) ((keep_iff n (m / 8) (m % 8) (by omega)).2 (by omega))
  · intro h
    refine pref_ext fun i hi => ?_
    rw [prefL_getD _ _ _ hi, prefL_getD _ _ _ hi]
    have v := vs.getD i
    have u := vd.getD i
    refine (pre_iff v.1 v.2 u.1 u.2 (keep_le _ _)).2 fun j hj => ?_
    have hj8 : j < 8 := Nat.lt_of_lt_of_le hj (keep_le _ _)
    have := h (8 * i + j) ((keep_iff n i j hj8).1 hj)
    rw [bitB_bt, bitB_bt, show (8 * i + j) / 8 = i by omega, show (8 * i + j) % 8 = j by omega] at this
    exact this
theorem in_same {s d : List Int} (vs : AllB s) (vd : AllB d) (n : Int) : inAd s d n = rinB s d n := by
  unfold inAd rinB
  rw [Bool.eq_iff_iff, beq_iff_eq, pref_iff vs vd n, List.all_eq_true]
  simp
theorem pref_again {s : List Int} (vs : AllB s) (n : Int) : prefL (prefL s n) n = prefL s n := by
  refine pref_ext fun i hi => ?_
  rw [prefL_getD _ _ _ hi, prefL_getD _ _ _ hi]
  have v := vs.getD i
  exact (pre_facts v.1 v.2 (keep_le _ _)).2.1
theorem pref_self {s : List Int} (vs : AllB s) (n : Int) : rinB (prefL s n) s n = true := by
  rw [← in_same (pref_all vs n) vs n]
  unfold inAd
  rw [pref_again vs n]
  simp
theorem pref_whole {s : List Int} (h : s.length = 16) : prefL s 128 = s := by
  apply List.ext_getElem?
  intro i
  by_cases hi : i < 16
  · have e : (prefL s 128)[i]? = some ((prefL s 128).getD i 0) := by
      have h1 : i < (prefL s 128).length := by rw [prefL_length]; exact hi
      simp only [List.getD]
      rw [List.getElem?_eq_getElem h1]; rfl
    have e2 : s[i]? = some (s.getD i 0) := by simp [List.getD, show i < s.length by omega]
    rw [e, e2, prefL_getD _ _ _ hi, show keepN (clampN 128) i = 8 by rw [clamp_eq]; unfold keepN; omega, pre_full]
  · rw [List.getElem?_eq_none (by rw [prefL_length]; omega), List.getElem?_eq_none (by omega)]
theorem pref_zero (n : Int) : prefL zero16 n = zero16 := by
  apply List.ext_getElem?
  intro i
  by_cases hi : i < 16
  · have e : (prefL zero16 n)[i]? = some ((prefL zero16 n).getD i 0) := by
      have h1 : i < (prefL zero16 n).length := by rw [prefL_length]; exact hi
      simp only [List.getD]
      rw [List.getElem?_eq_getElem h1]; rfl
    have h3 : ∀ j : Fin 16, zero16[j.val]? = some 0 := by decide
    have h4 : zero16.getD i 0 = 0 := by simp only [List.getD]; rw [h3 ⟨i, hi⟩]; rfl
    rw [e, h3 ⟨i, hi⟩, prefL_getD _ _ _ hi, h4]
    unfold pre8
    simp
  · rw [List.getElem?_eq_none (by rw [prefL_length]; omega), List.getElem?_eq_none (by show (16 : Nat) ≤ i; omega)]
theorem in_zero {s : List Int} (vs : AllB s) (n : Int) : inAd (prefL s n) zero16 128 = rinB s zero16 n := by
  rw [← in_same vs zero_all n]
  unfold inAd
  rw [pref_whole (prefL_length s n), pref_zero, pref_zero]
end Go.Proofs.YtjafjapnmffohaaDoor

namespace Go.Proofs.YtjafjapnmffohaaDoor
open Go.RowKit
set_option linter.unusedVariables false

def exW : List Int := [8193, 3512, 0, 0, 1, 0, 0, 1]
def exA : List Int := [32, 1, 13, 184, 0, 0, 0, 0, 0, 1, 0, 0, 0, 0, 0, 1]
theorem ex_of : ofL exW = exA := by decide +kernel
theorem ex_text : textL exA = [50, 48, 48, 49, 58, 100, 98, 56, 58, 58, 49, 58, 48, 58, 48, 58, 49] := by decide +kernel
theorem ex_zero : textL zero16 = [58, 58] := by decide +kernel
theorem ex_read : readL [49, 58, 50] = none := by decide +kernel
theorem ex_less : lessL zero16 exA = true := by decide +kernel
theorem ex_ints : AllI exW := fun x hx => by
  have k : ∀ x ∈ exW, -9223372036854775808 ≤ x ∧ x ≤ 9223372036854775807 := by decide
  exact k x hx
theorem ex_all : AllB exA := fun x hx => by
  have : ∀ x ∈ exA, 0 ≤ x ∧ x < 256 := by decide
  exact this x hx

end Go.Proofs.YtjafjapnmffohaaDoor
