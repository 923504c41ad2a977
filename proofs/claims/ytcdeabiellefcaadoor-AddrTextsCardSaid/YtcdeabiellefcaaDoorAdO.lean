/- What the document's own groups tells of any text. Condition: it is shorter than 2^32 - 15 bytes. -/
import Derived.Test.YtcdeabiellefcaaDoorAdN
namespace Go.Proofs.YtcdeabiellefcaaDoor
open Go.RowKit
set_option linter.unusedVariables false

/-- the numbers of a text of groups, letter by letter -/
def scanG : Nat → Nat → List Int → List UInt8 → Option (List Int)
  | n, long, out, [] => some (if long = 0 then out else out ++ [(n : Int)])
  | n, long, out, b :: r => if b.toNat = 58 then (if long = 0 ∨ r = [] then none else scanG 0 0 (out ++ [(n : Int)]) r) else match digV b.toNat with
    | none => none
    | some d => if long = 4 then none else scanG (n * 16 + d) (long + 1) out r
def LongN (n long : Nat) : Prop := (long = 0 ∧ n = 0) ∨ (long = 1 ∧ n < 16) ∨ (long = 2 ∧ n < 256) ∨ (long = 3 ∧ n < 4096) ∨ (long = 4 ∧ n < 65536)
def SgRel (w : World) (s : ByteArray) (v a b i : Value) (wr : World) : Prop :=
  ∃ (k n long q : Nat) (A : Option Addr) (c : Nat) (out : List Int), k ≤ s.size ∧ q ≤ k ∧ i = .int .i64 k ∧ a = .int .i64 n ∧ b = .int .i64 long ∧ v = .slice A q c ∧ LongN n long ∧ OwnN 3 wr w.heap.size A q c out ∧ (∀ x ∈ out, 0 ≤ x ∧ x < 65536) ∧
    scanG 0 0 [] s.data.toList = scanG n long out (s.data.toList.drop k) ∧ Below w.heap.size w wr
def GivesMs (w : World) (o : Option (List Int)) (e : Ending) (w' : World) : Prop :=
  ∃ A n c, e = .returned (.tuple #[.slice A n c, .bool o.isSome]) ∧ Ns w' w'.heap.size A n (o.getD []) ∧ n ≤ 4294967296 ∧ (∀ x ∈ o.getD [], 0 ≤ x ∧ x < 65536) ∧ Below w.heap.size w w'
theorem drop_nil (s : ByteArray) (k : Nat) : s.data.toList.drop (k + 1) = [] ↔ s.size ≤ k + 1 := by
  rw [List.drop_eq_nil_iff]; simp

set_option maxHeartbeats 3200000 in
set_option maxRecDepth 100000 in
theorem groups_any (s : ByteArray) (w : World) (hs : s.size < 4294967281) :
    Calls Tryd.prog 29 #[.string s] w (GivesMs w (scanG 0 0 [] s.data.toList)) := by
  obtain ⟨i0, hi, hz0, hz1, hz2⟩ := info_int_parts
  have HI := Lib.hid hi
  have HZ0 := Lib.hid hz0
  have HZ1 := Lib.hid hz1
  have HZ2 := Lib.hid hz2
  clear hi hz0 hz1 hz2
  go_enter Tryd.func29, Tryd.ntmps29
  go_wp2_with fail
  go_loopw [4, 5, 6, 7] (fun v a b i wr => SgRel w s v a b i wr) (fun _ _ _ i _ => s.size - (intOf i).toNat)
  case atStart => exact ⟨0, 0, 0, 0, none, 0, [], Nat.zero_le _, Nat.le_refl _, rfl, rfl, rfl, rfl, .inl ⟨rfl, rfl⟩, OwnN.none_ _ _ _, (fun x hx => by cases hx), rfl, Below.refl _ _⟩
  case round =>
    obtain ⟨k, n, long, q, A, c, out, hk, hqk, rfl, rfl, rfl, rfl, hln, hO, hr, he, hB⟩ := hrel
    have HLN := Lib.hid hln
    have HE := Lib.hid he
    have HR := Lib.hid hr
    have hn2 : n < 65536 := by unfold LongN at hln; omega
    have hlo4 : long ≤ 4 := by unfold LongN at hln; omega
    clear hln he hr
    by_cases hlt : k < s.size
    · have HDB := Lib.hid (drop_byte s k hlt)
      have hb := s[k].toNat_lt
      by_cases h58 : s[k].toNat = 58
      · have h58b : ((s[k].toNat : Int) == 58) = true := by rw [beq_iff_eq]; omega
        by_cases hl0 : long = 0
        · have HX := Lib.hid (show scanG 0 0 [] s.data.toList = none by rw [HE.out, HDB.out, scanG, if_pos h58, if_pos (.inl hl0)])
          subst hl0
          clear h58
          go_wp2_with fail
          go_ret2
          rw [HX.out]
          exact ⟨none, 0, 0, rfl, Ns.nil _ _ _, by omega, (fun x hx => by cases hx), hB⟩
        · have hl0b : ((long : Int) == 0) = false := by simp; omega
          by_cases hlast : k + 1 = s.size
          · have HX := Lib.hid (show scanG 0 0 [] s.data.toList = none by rw [HE.out, HDB.out, scanG, if_pos h58, if_pos (.inr ((drop_nil s k).2 (by omega)))])
            have hlb : ((k : Int) == (s.size : Int) - 1) = true := by rw [beq_iff_eq]; omega
            clear h58 hl0 hlast
            go_wp2_with fail
            go_ret2
            rw [HX.out]
            exact ⟨none, 0, 0, rfl, Ns.nil _ _ _, by omega, (fun x hx => by cases hx), hB⟩
          · have HX := Lib.hid (show scanG 0 0 [] s.data.toList = scanG 0 0 (out ++ [(n : Int)]) (s.data.toList.drop (k + 1)) by
              rw [HE.out, HDB.out, scanG, if_pos h58, if_neg (fun h => by
                rcases h with h | h
                · exact hl0 h
                · have := (drop_nil s k).1 h; omega)])
            have hlb : ((k : Int) == (s.size : Int) - 1) = false := by simp; omega
            clear h58 hl0
            have hlB := Low.alloc wr (.cells #[.int .i64 n] 3)
            have hB3 := hB.trans (hlB.mono hB.size)
            have hO3 := hO.below hlB
            have hk3 : BlkN (wr.alloc (.cells #[.int .i64 n] 3)) 3 wr.heap.size [(n : Int)] := BlkN.new wr 3 [(n : Int)]
            have hs3 := hk3.bs (B := wr.heap.size + 1) (.cons (by omega) (by omega) .nil) (by omega) rfl
            clear hO hB hlB hk3
            go_wp2_with (at_builtin; refine wpList_append_ns rfl (.tmp 28) (.tmp 30) _ rfl w.heap.size 3 i0 Tryd.underlying24 HI.out HZ0.out HZ1.out HZ2.out _ q c _ rfl hO3 _ 1 _ _ [(n : Int)] rfl hs3 (by omega) hB3.size ?_; intro A4 c4 w4 hO4 hg4 hb4)
            have hB4 : Below w.heap.size w w4 := hB3.grown hg4 hB3.size (fun k hk => (hO3.lt k hk).1)
            go_roundw
            case rel => exact ⟨k + 1, 0, 0, q + 1, A4, c4, out ++ [(n : Int)], by omega, by omega, by go_num, rfl, rfl, rfl, .inl ⟨rfl, rfl⟩, hO4, range_snoc HR.out (by omega) (by omega), HX.out, hB4⟩
            case measure => simp [intOf]; omega
      · have h58b : ((s[k].toNat : Int) == 58) = false := by simp; omega
        cases hd : digV s[k].toNat with
        | none =>
          have HX := Lib.hid (show scanG 0 0 [] s.data.toList = none by rw [HE.out, HDB.out, scanG, if_neg h58, hd])
          have HD := Lib.hid (digR_none hd)
          clear hd h58
          go_wp2_with fail
          refine (rdigit_any s[k].toNat wr hb).mono ?_
          rintro e w1 ⟨rfl, rfl⟩
          rw [HD.out]
          go_wp2_with fail
          go_ret2
          rw [HX.out]
          exact ⟨none, 0, 0, rfl, Ns.nil _ _ _, by omega, (fun x hx => by cases hx), hB⟩
        | some d =>
          have HD := Lib.hid (digR_some hd)
          have hd16 := (digV_lt hd).1
          have hdn : ¬ (d : Int) < 0 := by omega
          by_cases hl4 : long = 4
          · have HX := Lib.hid (show scanG 0 0 [] s.data.toList = none by rw [HE.out, HDB.out, scanG, if_neg h58, hd]; exact if_pos hl4)
            clear hd h58
            subst hl4
            go_wp2_with fail
            refine (rdigit_any s[k].toNat wr hb).mono ?_
            rintro e w1 ⟨rfl, rfl⟩
            rw [HD.out]
            go_wp2_with fail
            go_ret2
            rw [HX.out]
            exact ⟨none, 0, 0, rfl, Ns.nil _ _ _, by omega, (fun x hx => by cases hx), hB⟩
          · have HX := Lib.hid (show scanG 0 0 [] s.data.toList = scanG (n * 16 + d) (long + 1) out (s.data.toList.drop (k + 1)) by rw [HE.out, HDB.out, scanG, if_neg h58, hd]; exact if_neg hl4)
            have hl4b : ((long : Int) == 4) = false := by simp; omega
            have HLN2 := Lib.hid (show LongN (n * 16 + d) (long + 1) by have := HLN.out; unfold LongN at this ⊢; omega)
            clear hd h58
            go_wp2_with fail
            refine (rdigit_any s[k].toNat wr hb).mono ?_
            rintro e w1 ⟨rfl, rfl⟩
            rw [HD.out]
            go_wp2_with fail
            go_roundw
            case rel => exact ⟨k + 1, n * 16 + d, long + 1, q, A, c, out, by omega, by omega, by go_num, by go_num, by go_num, rfl, HLN2.out, hO, HR.out, HX.out, hB⟩
            case measure => simp [intOf]; omega
    · have HDN := Lib.hid (show s.data.toList.drop k = [] from List.drop_eq_nil_of_le (by simp; omega))
      by_cases hl0 : long = 0
      · have HX := Lib.hid (show scanG 0 0 [] s.data.toList = some out by rw [HE.out, HDN.out, scanG, if_pos hl0])
        subst hl0
        go_wp2_with fail
        go_ret2
        rw [HX.out]
        exact ⟨A, q, c, rfl, hO.bs (Nat.le_refl _), by omega, HR.out, hB⟩
      · have HX := Lib.hid (show scanG 0 0 [] s.data.toList = some (out ++ [(n : Int)]) by rw [HE.out, HDN.out, scanG, if_neg hl0])
        have hl0p : 0 < long := by omega
        clear hl0
        have hlB := Low.alloc wr (.cells #[.int .i64 n] 3)
        have hB3 := hB.trans (hlB.mono hB.size)
        have hO3 := hO.below hlB
        have hk3 : BlkN (wr.alloc (.cells #[.int .i64 n] 3)) 3 wr.heap.size [(n : Int)] := BlkN.new wr 3 [(n : Int)]
        have hs3 := hk3.bs (B := wr.heap.size + 1) (.cons (by omega) (by omega) .nil) (by omega) rfl
        clear hO hB hlB hk3
        go_wp2_with (at_builtin; refine wpList_append_ns rfl (.tmp 50) (.tmp 52) _ rfl w.heap.size 3 i0 Tryd.underlying24 HI.out HZ0.out HZ1.out HZ2.out _ q c _ rfl hO3 _ 1 _ _ [(n : Int)] rfl hs3 (by omega) hB3.size ?_; intro A4 c4 w4 hO4 hg4 hb4)
        have hB4 : Below w.heap.size w w4 := hB3.grown hg4 hB3.size (fun k hk => (hO3.lt k hk).1)
        go_ret2
        rw [HX.out]
        exact ⟨A4, q + 1, c4, rfl, hO4.bs (Nat.le_refl _), by omega, range_snoc HR.out (by omega) (by omega), hB4⟩
end Go.Proofs.YtcdeabiellefcaaDoor
