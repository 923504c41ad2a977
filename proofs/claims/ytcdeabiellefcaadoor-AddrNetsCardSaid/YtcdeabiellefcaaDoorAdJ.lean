/- What addr.digit and addr.readGroup tell of any rune, of any text. No condition. -/
import Derived.Test.YtcdeabiellefcaaDoorAdI
import Derived.Laws.RangeAny
namespace Go.Proofs.YtcdeabiellefcaaDoor
open Go.RowKit
set_option linter.unusedVariables false

/-- which digit a letter is -/
def digV (r : Nat) : Option Nat := if 48 ≤ r ∧ r ≤ 57 then some (r - 48) else if 97 ≤ r ∧ r ≤ 102 then some (r - 87) else if 65 ≤ r ∧ r ≤ 70 then some (r - 55) else none
theorem digV_lt {r d : Nat} (h : digV r = some d) : d < 16 ∧ r < 128 := by
  unfold digV at h
  split at h
  · simp at h; omega
  · split at h
    · simp at h; omega
    · split at h
      · simp at h; omega
      · simp at h
theorem digV_high {r : Nat} (h : 128 ≤ r) : digV r = none := by
  unfold digV
  rw [if_neg (by omega), if_neg (by omega), if_neg (by omega)]

set_option maxHeartbeats 400000 in
theorem digit_yes (r d : Nat) (w : World) (hr : r ≤ 2147483647) (h : digV r = some d) :
    Calls Tryd.prog 44 #[.int .i32 r] w fun e w' => e = .returned (.tuple #[.int .i64 d, .bool true]) ∧ w = w' := by
  have hc : (48 ≤ r ∧ r ≤ 57 ∧ d = r - 48) ∨ (¬ r ≤ 57 ∧ 97 ≤ r ∧ r ≤ 102 ∧ d = r - 87) ∨ (¬ r ≤ 57 ∧ ¬ 97 ≤ r ∧ 65 ≤ r ∧ r ≤ 70 ∧ d = r - 55) := by
    unfold digV at h
    split at h
    · simp at h; omega
    · split at h
      · simp at h; omega
      · split at h
        · simp at h; omega
        · simp at h
  clear h
  rcases hc with ⟨h1, h2, h3⟩ | ⟨h1, h2, h3, h4⟩ | ⟨h1, h2, h3, h4, h5⟩
  · have H := Lib.hid h3
    clear h3
    go_enter Tryd.func44, Tryd.ntmps44
    go_wp2
    go_ret2
    exact ⟨by rw [H.out, show ((r - 48 : Nat) : Int) = (r : Int) - 48 by omega]; rfl, rfl⟩
  · have H := Lib.hid h4
    clear h4
    have h0 : 48 ≤ r := by omega
    go_enter Tryd.func44, Tryd.ntmps44
    go_wp2
    go_ret2
    exact ⟨by rw [H.out, show ((r - 87 : Nat) : Int) = (r : Int) - 97 + 10 by omega]; rfl, rfl⟩
  · have H := Lib.hid h5
    clear h5
    have h0 : 48 ≤ r := by omega
    go_enter Tryd.func44, Tryd.ntmps44
    go_wp2
    go_ret2
    exact ⟨by rw [H.out, show ((r - 55 : Nat) : Int) = (r : Int) - 65 + 10 by omega]; rfl, rfl⟩

set_option maxHeartbeats 800000 in
theorem digit_no (r : Nat) (w : World) (hr : r ≤ 2147483647) (h : digV r = none) :
    Calls Tryd.prog 44 #[.int .i32 r] w fun e w' => e = .returned (.tuple #[.int .i64 0, .bool false]) ∧ w = w' := by
  have h1 : ¬ (48 ≤ r ∧ r ≤ 57) := fun k => by rw [digV, if_pos k] at h; cases h
  have h2 : ¬ (97 ≤ r ∧ r ≤ 102) := fun k => by rw [digV, if_neg h1, if_pos k] at h; cases h
  have h3 : ¬ (65 ≤ r ∧ r ≤ 70) := fun k => by rw [digV, if_neg h1, if_neg h2, if_pos k] at h; cases h
  have hc : (¬ 48 ≤ r) ∨ (48 ≤ r ∧ ¬ r ≤ 57 ∧ ¬ 97 ≤ r ∧ ¬ 65 ≤ r) ∨ (48 ≤ r ∧ ¬ r ≤ 57 ∧ ¬ 97 ≤ r ∧ 65 ≤ r ∧ ¬ r ≤ 70) ∨ (48 ≤ r ∧ ¬ r ≤ 57 ∧ 97 ≤ r ∧ ¬ r ≤ 102 ∧ 65 ≤ r ∧ ¬ r ≤ 70) := by omega
  clear h h1 h2 h3
  rcases hc with h1 | ⟨h1, h2, h3, h4⟩ | ⟨h1, h2, h3, h4, h5⟩ | ⟨h1, h2, h3, h4, h5, h6⟩
  · have h2 : ¬ 97 ≤ r := by omega
    have h3 : ¬ 65 ≤ r := by omega
    go_enter Tryd.func44, Tryd.ntmps44
    go_wp2
    go_ret2
    exact ⟨rfl, rfl⟩
  all_goals
    go_enter Tryd.func44, Tryd.ntmps44
    go_wp2
    go_ret2
    exact ⟨rfl, rfl⟩

/-- the number that letters tell, behind a number -/
def rdAcc : Nat → List UInt8 → Option Nat
  | n, [] => some n
  | n, b :: r => match digV b.toNat with
    | none => none
    | some d => rdAcc (n * 16 + d) r
def rdG (l : List UInt8) : Option Nat := if l = [] ∨ 4 < l.length then none else rdAcc 0 l
theorem drop_byte (s : ByteArray) (k : Nat) (h : k < s.size) : s.data.toList.drop k = s[k] :: s.data.toList.drop (k + 1) := by
  rw [List.drop_eq_getElem_cons (by simpa using h)]
  rfl
theorem rd_more {s : ByteArray} {k : Nat} (h : k < s.size) {n d : Nat} (hd : digV s[k].toNat = some d) : rdAcc n (s.data.toList.drop k) = rdAcc (n * 16 + d) (s.data.toList.drop (k + 1)) := by
  rw [drop_byte s k h, rdAcc, hd]
theorem rd_fail {s : ByteArray} {k : Nat} (h : k < s.size) {n : Nat} (hd : digV s[k].toNat = none) : rdAcc n (s.data.toList.drop k) = none := by
  rw [drop_byte s k h, rdAcc, hd]
theorem rd_end {s : ByteArray} {k : Nat} (h : s.size ≤ k) {n : Nat} : rdAcc n (s.data.toList.drop k) = some n := by
  rw [List.drop_eq_nil_of_le (by simpa using h), rdAcc]
theorem or_i64_4 (x y : Int) (hx : 0 ≤ x) (hx1 : x < 65536) (hy : 0 ≤ y) (hy1 : y < 16) : bits .or .i64 (x * 16) y = x * 16 + y :=
  bits_join .i64 62 (by decide) wraps_i64 4 (x * 16) y (by omega) (by omega) (by omega) hy (by omega) (by omega)
theorem low_iter (w : World) (s : ByteArray) (pos : Nat) : Low w (w.iter s pos) := Low.alloc w _

/-- where the walk over the letters stands -/
def RgRel (w : World) (s : ByteArray) (v : Value) (wr : World) : Prop :=
  ∃ (k n : Nat), k ≤ s.size ∧ ((k = 0 ∧ n = 0) ∨ (k = 1 ∧ n < 16) ∨ (k = 2 ∧ n < 256) ∨ (k = 3 ∧ n < 4096) ∨ (k = 4 ∧ n < 65536)) ∧ v = .int .i64 n ∧ wr = w.iter s k ∧ rdAcc 0 s.data.toList = rdAcc n (s.data.toList.drop k)
def GivesG (w : World) (o : Option Nat) (e : Ending) (w' : World) : Prop := e = .returned (.tuple #[.int .i64 (o.getD 0 : Nat), .bool o.isSome]) ∧ o.getD 0 < 65536 ∧ Below w.heap.size w w'

set_option maxHeartbeats 1600000 in
theorem readGroup_any (s : ByteArray) (w : World) (hs : s.size < 4294967281) :
    Calls Tryd.prog 35 #[.string s] w (GivesG w (rdG s.data.toList)) := by
  by_cases h0 : s.size = 0
  · obtain rfl : s = ⟨#[]⟩ := by
      apply ByteArray.ext
      exact Array.eq_empty_of_size_eq_zero h0
    go_enter Tryd.func35, Tryd.ntmps35
    go_wp2
    go_ret2
    exact ⟨rfl, by decide, Below.refl _ _⟩
  · have hne : ¬ s.toList = [] := fun h => by
      rw [ByteArray.toList_eq] at h
      exact h0 (by have := congrArg List.length h; simpa using this)
    have hne2 : (s.toList == []) = false := by simpa using hne
    by_cases h4 : 4 < s.size
    · have HG := Lib.hid (show rdG s.data.toList = none by unfold rdG; rw [if_pos (.inr (by simpa using h4))])
      have h4' : (4 : Int) < s.size := by omega
      go_enter Tryd.func35, Tryd.ntmps35
      go_wp2
      go_ret2
      rw [HG.out]
      exact ⟨rfl, by decide, Below.refl _ _⟩
    · have HG := Lib.hid (show rdG s.data.toList = rdAcc 0 s.data.toList by
        unfold rdG
        rw [if_neg (fun h => by
          rcases h with h | h
          · exact h0 (by have := congrArg List.length h; simpa using this)
          · exact h4 (by simpa using h))])
      have h4' : ¬ (4 : Int) < s.size := by omega
      have h4n : s.size ≤ 4 := by omega
      go_enter Tryd.func35, Tryd.ntmps35
      go_wp2_with fail
      go_loopw [4] (fun v wr => RgRel w s v wr) (fun _ wr => s.size - wr.iterPos w.heap.size)
      case atStart => exact ⟨0, 0, Nat.zero_le _, .inl ⟨rfl, rfl⟩, rfl, rfl, rfl⟩
      case round =>
        obtain ⟨k, n, hk, hn, rfl, rfl, he⟩ := hrel
        have HE := Lib.hid he
        have HN := Lib.hid hn
        have hn2 : n < 65536 := by omega
        clear he hn
        by_cases hlt : k < s.size
        · by_cases hb : s[k].toNat < 128
          · have hnx := fun ty => run_next_ascii (P := Tryd.prog) w s k ty hlt hb
            cases hd : digV s[k].toNat with
            | none =>
              have HD := Lib.hid hd
              have HX := Lib.hid (show rdG s.data.toList = none by rw [HG.out, HE.out]; exact rd_fail hlt hd)
              clear hd
              go_wp2_with fail
              refine (digit_no _ _ (by omega) HD.out).mono ?_
              rintro e w' ⟨rfl, rfl⟩
              go_wp2
              go_ret2
              rw [HX.out]
              exact ⟨rfl, by decide, low_iter w s _⟩
            | some d =>
              have HD := Lib.hid hd
              have HX := Lib.hid (show rdAcc 0 s.data.toList = rdAcc (n * 16 + d) (s.data.toList.drop (k + 1)) by rw [HE.out]; exact rd_more hlt hd)
              have hdl := (digV_lt hd).1
              clear hd
              have HO := Lib.hid (or_i64_4 n d (by omega) (by omega) (by omega) (by omega))
              go_wp2_with fail
              refine (digit_yes _ d _ (by omega) HD.out).mono ?_
              rintro e w' ⟨rfl, rfl⟩
              clear hnx
              have hn3 := HN.out
              go_wp2
              go_roundw
              case rel =>
                refine ⟨k + 1, n * 16 + d, by omega, by omega, ?_, rfl, HX.out⟩
                rw [HO.out]
                go_num
              case measure => simp [World.iterPos_iter]; omega
          · have hnx := fun ty => run_next_any (P := Tryd.prog) w s k ty hlt
            have hh := decode_high s k hlt (by omega)
            have hh2 := decode_le s k
            have HX := Lib.hid (show rdG s.data.toList = none by rw [HG.out, HE.out]; exact rd_fail hlt (digV_high (by omega)))
            have HD := Lib.hid (digV_high hh.1)
            go_wp2_with fail
            refine (digit_no _ _ hh2 HD.out).mono ?_
            rintro e w' ⟨rfl, rfl⟩
            go_wp2
            go_ret2
            rw [HX.out]
            exact ⟨rfl, by decide, low_iter w s _⟩
        · have hnx := fun ty => run_next_end (P := Tryd.prog) w s k ty hlt
          have HX := Lib.hid (show rdG s.data.toList = some n by rw [HG.out, HE.out]; exact rd_end (by omega))
          go_wp2
          go_ret2
          rw [HX.out]
          exact ⟨rfl, hn2, low_iter w s _⟩
end Go.Proofs.YtcdeabiellefcaaDoor
