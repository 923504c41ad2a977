/- What Find answers, topt's and the document's: the data of the first option of a kind. Condition: at most 2^47 options. -/
import Derived.Test.YtibgonmngjajgaaTpB
import Derived.Test.YtibgonmngjajgaaOctU
import Derived.Test.YtibgonmngjajgaaVals
import Derived.WalkMore
namespace Go.Proofs.Ytibgonmngjajgaa
open Go.RowKit
set_option linter.unusedVariables false

def findO : List Ob → Int → List Int × Bool
  | [], _ => ([], false)
  | o :: l, k => if o.1 = k then (o.2, true) else findO l k
theorem find_drop {os : List Od} {i : Nat} (k : Int) (h : i < os.length) : findO ((os.map Od.v).drop i) k = if (os.getD i zeroO).k = k then ((os.getD i zeroO).d, true) else findO ((os.map Od.v).drop (i + 1)) k := by
  have e : (os.map Od.v).drop i = (os.getD i zeroO).v :: (os.map Od.v).drop (i + 1) := by
    rw [List.drop_eq_getElem_cons (by simpa using h)]
    simp [List.getD, h]
  rw [e]
  rfl

set_option maxHeartbeats 800000 in
theorem rfind_opt (A : Option Addr) (n c : Nat) (os : List Od) (k : Int) (w : World) (hn : n ≤ 140737488355328) (ho : Os w w.heap.size A n os) :
    Calls Try.prog 16 #[.slice A n c, .int .i64 k] w (GivesB w (findO (os.map Od.v) k).1 (findO (os.map Od.v) k).2) := by
  have hlen := ho.len
  obtain ⟨r, hr⟩ : ∃ r, r = findO (os.map Od.v) k := ⟨_, rfl⟩
  rw [← hr]
  have HR := Lib.hid hr
  clear hr
  go_enter Try.func16, Try.ntmps16
  go_wp2_with fail
  go_loopw [6] (fun i wr => ∃ m : Nat, m ≤ n ∧ i = .int .i64 m ∧ wr = w ∧ Hid (r = findO ((os.map Od.v).drop m) k)) (fun i _ => n - (intOf i).toNat)
  case atStart => exact ⟨0, Nat.zero_le _, rfl, rfl, HR⟩
  case round =>
    obtain ⟨m, hm, rfl, rfl, HE⟩ := hrel
    by_cases hmn : m < n
    · obtain ⟨b, p, rfl, hbl, hc⟩ := ho.mem (by omega)
      obtain ⟨c1, c2⟩ := hc m hmn
      have hok := ho.at_ hmn
      have hfd := find_drop (os := os) (i := m) k (by omega)
      rw [← HE.out] at hfd
      obtain ⟨o, hoo⟩ : ∃ o, o = os.getD m zeroO := ⟨_, rfl⟩
      rw [← hoo] at c1 c2 hok hfd
      clear hc hoo
      obtain ⟨kk, DA, dn, dc, d⟩ := o
      obtain ⟨hk, hdn, hbs⟩ := hok
      dsimp only at c1 c2 hk hdn hbs hfd
      have HBS := Lib.hid hbs
      have HO := Lib.hid ho
      clear ho hbs
      by_cases he : kk = k
      · rw [if_pos he] at hfd
        have HF := Lib.hid hfd
        subst he
        clear hfd
        go_wp2_with fail
        go_ret2
        rw [HF.out]
        exact ⟨DA, dn, dc, rfl, HBS.out, Below.refl _ _⟩
      · rw [if_neg he] at hfd
        have HF := Lib.hid hfd
        have heb : (kk == k) = false := by simpa using he
        clear hfd he
        go_wp2_with fail
        exact ⟨⟨m + 1, by omega, rfl, trivial, HF⟩, by simp [intOf]; omega⟩
    · obtain rfl : m = n := by omega
      have HF := Lib.hid (show r = ([], false) by rw [HE.out, List.drop_of_length_le (by simp [hlen])]; rfl)
      clear ho HE
      go_wp2_with fail
      go_ret2
      rw [HF.out]
      exact ⟨none, 0, 0, rfl, Bs.nil _ _ _, Below.refl _ _⟩

set_option maxHeartbeats 800000 in
theorem find_opt (A : Option Addr) (n c : Nat) (os : List Od) (k : Int) (w : World) (hn : n ≤ 140737488355328) (ho : Os w w.heap.size A n os) :
    Calls Try.prog 15 #[.slice A n c, .int .i64 k] w (GivesB w (findO (os.map Od.v) k).1 (findO (os.map Od.v) k).2) := by
  have hlen := ho.len
  obtain ⟨r, hr⟩ : ∃ r, r = findO (os.map Od.v) k := ⟨_, rfl⟩
  rw [← hr]
  have HR := Lib.hid hr
  clear hr
  go_enter Try.func15, Try.ntmps15
  go_wp2_with fail
  go_loopw [10] (fun i wr => ∃ m : Nat, m ≤ n ∧ i = .int .i64 m ∧ Below w.heap.size w wr ∧ Hid (r = findO ((os.map Od.v).drop m) k)) (fun i _ => n - (intOf i).toNat)
  case atStart => exact ⟨0, Nat.zero_le _, rfl, Below.refl _ _, HR⟩
  case round =>
    obtain ⟨m, hm, rfl, hB, HE⟩ := hrel
    by_cases hmn : m < n
    · obtain ⟨b, p, rfl, hbl, hc⟩ := ho.mem (by omega)
      obtain ⟨q1, q2⟩ := hc m hmn
      have hok := ho.at_ hmn
      have hfd := find_drop (os := os) (i := m) k (by omega)
      rw [← HE.out] at hfd
      obtain ⟨o, hoo⟩ : ∃ o, o = os.getD m zeroO := ⟨_, rfl⟩
      rw [← hoo] at q1 q2 hok hfd
      have c1 := (hB.cell (p := ⟨b, p + m * 2, none⟩) hbl).trans q1
      have c2 := (hB.cell (p := ⟨b, p + m * 2 + 1, none⟩) hbl).trans q2
      clear hc hoo q1 q2
      obtain ⟨kk, DA, dn, dc, d⟩ := o
      obtain ⟨hk, hdn, hbs⟩ := hok
      dsimp only at c1 c2 hk hdn hbs hfd
      have hl1 := Low.alloc wr (.cells #[.int .i64 kk, .slice DA dn dc] 39)
      have HBS := Lib.hid hbs
      have HO := Lib.hid ho
      have hsz := hB.size
      clear ho hbs
      by_cases he : kk = k
      · rw [if_pos he] at hfd
        have HF := Lib.hid hfd
        subst he
        have hl2 := hl1.trans (Low.alloc _ (.cells #[.slice DA dn dc] 24))
        have hBe := hB.trans (hl2.mono hsz)
        have HBE := Lib.hid hBe
        have hg : BlkV ((wr.alloc (.cells #[.int .i64 kk, .slice DA dn dc] 39)).alloc (.cells #[.slice DA dn dc] 24)) 24 (wr.heap.size + 1) [.slice DA dn dc] := BlkV.second _
        have HG := Lib.hid hg
        clear hfd hl1 hl2 hg
        go_wp2_with fail
        refine (join1 DA dn dc (wr.heap.size + 1) _ d _ (by omega) HG.out (HBS.out.below' HBE.out HBE.out.size)).mono ?_
        rintro e w1 ⟨v, rfl, g, rfl, hgg, hk1, hl1, ha1, hB1⟩
        have hB2 := hBe.trans (hB1.mono hBe.size)
        have HK := Lib.hid (hk1.bs ha1 hk1.lt hl1)
        clear hgg hk1 hl1 ha1 hB1
        go_wp2_with fail
        go_ret2
        rw [HF.out]
        exact ⟨some ⟨g, 0, none⟩, dn, dn, rfl, HK.out, hB2⟩
      · rw [if_neg he] at hfd
        have HF := Lib.hid hfd
        have heb : (kk == k) = false := by simpa using he
        have hBe := hB.trans (hl1.mono hsz)
        clear hfd he
        go_wp2_with fail
        exact ⟨⟨m + 1, by omega, rfl, hBe, HF⟩, by simp [intOf]; omega⟩
    · obtain rfl : m = n := by omega
      have HF := Lib.hid (show r = ([], false) by rw [HE.out, List.drop_of_length_le (by simp [hlen])]; rfl)
      clear ho HE
      go_wp2_with fail
      go_ret2
      rw [HF.out]
      exact ⟨none, 0, 0, rfl, Bs.nil _ _ _, hB⟩
end Go.Proofs.Ytibgonmngjajgaa
