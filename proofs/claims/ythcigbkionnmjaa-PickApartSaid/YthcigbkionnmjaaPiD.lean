/- Stage 18: what the program's own three functions are to tell, as propositions; what the laws ask of every program; the three walks, given these. No condition. -/
import Derived.Test.YthcigbkionnmjaaPiC
set_option maxRecDepth 100000
namespace Go.Proofs.Ythcigbkionnmjaa
open Go.RowKit
set_option linter.unusedVariables false

def PiTwos : Prop := ∀ (A : Option Addr) (n c : Nat) (t : List Int) (H : Nat) (w : World), n ≤ 1000 → n ≤ c → H < 18446744073709551616 → Ns w w.heap.size A n t → Calls Try.prog 7 #[.slice A n c, .int .u64 H] w fun e w' => e = .returned (.tuple #[.int .i64 (firstP t H), .int .i64 (secondP t H)]) ∧ Low w w'
def PiNodes : Prop := ∀ (A : Option Addr) (n c : Nat) (t : List Int) (w : World), n ≤ 1000 → n ≤ c → Ns w w.heap.size A n t → Calls Try.prog 9 #[.slice A n c] w (GivesI w (nodesP t))
def PiHass : Prop := ∀ (A : Option Addr) (n c : Nat) (t : List Int) (node : Int) (w : World), n ≤ 1000 → n ≤ c → i64ok node → Ns w w.heap.size A n t → Calls Try.prog 11 #[.slice A n c, .int .i64 node] w fun e w' => e = .returned (.bool (hasP t node)) ∧ Low w w'
theorem first335 : firstP [3, 3, 5] 1 = 3 := by decide +kernel
theorem second335 : secondP [3, 3, 5] 1 = 5 := by decide +kernel
theorem nodes503 : (nodesP [5, 0, 3]).length = 2 := by decide +kernel
theorem has503 : hasP [5, 0, 3] 3 = true := by decide +kernel
theorem has0 : hasP [0] 0 = false := by decide +kernel
theorem ns_fresh (w : World) (t : TypeId) (xs : List Int) (h : AllI xs) : Ns (w.alloc (.cells (cellsN xs).toArray t)) (w.alloc (.cells (cellsN xs).toArray t)).heap.size (some ⟨w.heap.size, 0, none⟩) xs.length xs := by
  have h1 := BlkN.new w t xs
  exact h1.bs h h1.lt rfl
theorem all335 : AllI [3, 3, 5] := .cons (by omega) (by omega) (.cons (by omega) (by omega) (.cons (by omega) (by omega) .nil))
theorem all503 : AllI [5, 0, 3] := .cons (by omega) (by omega) (.cons (by omega) (by omega) (.cons (by omega) (by omega) .nil))
theorem all0 : AllI [0] := .cons (by omega) (by omega) .nil
set_option maxHeartbeats 3200000 in
theorem pilives_any (HT : PiTwos) (HN : PiNodes) (HH : PiHass) (w : World) : Calls Try.prog 6 #[] w fun e w' => e = .returned (.bool true) ∧ Low w w' := by
  have HTT := Lib.hid HT
  have HNN := Lib.hid HN
  have HHH := Lib.hid HH
  clear HT HN HH
  have h1 := ns_fresh w 3 [3, 3, 5] all335
  have hL := Lib.hid (Low.alloc w (.cells (cellsN [3, 3, 5]).toArray 3))
  go_enter Try.func6, Try.ntmps6
  go_wp2_with fail
  change Calls _ _ _ (w.alloc (.cells (cellsN [3, 3, 5]).toArray 3)) _
  generalize w.alloc (.cells (cellsN [3, 3, 5]).toArray 3) = w1 at *
  refine (HTT.out _ 3 3 [3, 3, 5] 1 w1 (by omega) (by omega) (by omega) h1).mono ?_
  rintro e w2 ⟨rfl, hl⟩
  rw [first335, second335]
  replace hL := Lib.hid (hL.out.trans hl)
  clear hl h1
  have h2 := ns_fresh w2 3 [5, 0, 3] all503
  have hl2 := Lib.hid (Low.alloc w2 (.cells (cellsN [5, 0, 3]).toArray 3))
  go_wp2_with fail
  change Calls _ _ _ (w2.alloc (.cells (cellsN [5, 0, 3]).toArray 3)) _
  generalize w2.alloc (.cells (cellsN [5, 0, 3]).toArray 3) = w3 at *
  refine (HNN.out _ 3 3 [5, 0, 3] w3 (by omega) (by omega) h2).mono ?_
  rintro e w4 ⟨A4, c4, rfl, _, _, _, hl⟩
  rw [nodes503]
  replace hL := Lib.hid ((hL.out.trans hl2.out).trans hl)
  clear hl h2 hl2
  have h3 := ns_fresh w4 3 [5, 0, 3] all503
  have hl3 := Lib.hid (Low.alloc w4 (.cells (cellsN [5, 0, 3]).toArray 3))
  go_wp2_with fail
  change Calls _ _ _ (w4.alloc (.cells (cellsN [5, 0, 3]).toArray 3)) _
  generalize w4.alloc (.cells (cellsN [5, 0, 3]).toArray 3) = w5 at *
  refine (HHH.out _ 3 3 [5, 0, 3] 3 w5 (by omega) (by omega) (by unfold i64ok; omega) h3).mono ?_
  rintro e w6 ⟨rfl, hl⟩
  rw [has503]
  replace hL := Lib.hid ((hL.out.trans hl3.out).trans hl)
  clear hl h3 hl3
  have h4 := ns_fresh w6 3 [0] all0
  have hl4 := Lib.hid (Low.alloc w6 (.cells (cellsN [0]).toArray 3))
  go_wp2_with fail
  change Calls _ _ _ (w6.alloc (.cells (cellsN [0]).toArray 3)) _
  generalize w6.alloc (.cells (cellsN [0]).toArray 3) = w7 at *
  refine (HHH.out _ 1 1 [0] 0 w7 (by omega) (by omega) (by unfold i64ok; omega) h4).mono ?_
  rintro e w8 ⟨rfl, hl⟩
  rw [has0]
  replace hL := Lib.hid ((hL.out.trans hl4.out).trans hl)
  clear hl h4 hl4
  go_wp2_with fail
  go_ret
  exact ⟨rfl, hL.out⟩

set_option maxHeartbeats 1600000 in
theorem pit_walk (HT : PiTwos) (HN : PiNodes) (HH : PiHass) (A : Option Addr) (n c : Nat) (t : List Int) (H : Nat) (w : World) (hn : n ≤ 140737488355328) (hnc : n ≤ c) (hH : H < 18446744073709551616) (hb : Ns w w.heap.size A n t) :
    Calls Try.prog 3 #[.slice A n c, .int .u64 H] w fun e w' => e = .returned (.bool true) ∧ Low w w' := by
  have HML := Lib.hid fun u => pilives_any HT HN HH u
  have HTT := Lib.hid (fun u (h1 : n ≤ 1000) hu => HT A n c t H u h1 hnc hH hu)
  have HRT := Lib.hid (fun u (h1 : n ≤ 1000) hu => rtwoP_any A n c t H u h1 hH hu)
  have HB := Lib.hid hb
  clear hb HT HN HH hH
  generalize firstP t H = f at *
  generalize secondP t H = s at *
  by_cases hlt : n ≤ 300
  · have hlt2 : ¬ (300 : Int) < n := by omega
    have hff : (f == f) = true := by simp
    have hss : (s == s) = true := by simp
    go_enter Try.func3, Try.ntmps3
    go_wp2_with fail
    refine (HTT.out w (by omega) HB.out).mono ?_
    rintro e w2 ⟨rfl, hl⟩
    have hL := Lib.hid hl
    replace HB := Lib.hid (HB.out.below' hl hl.size)
    clear hl
    go_wp2_with fail
    refine (HRT.out w2 (by omega) HB.out).mono ?_
    rintro e w3 ⟨rfl, rfl⟩
    go_wp2_with fail
    refine (HML.out w2).mono ?_
    rintro e w4 ⟨rfl, hl⟩
    replace hL := Lib.hid (hL.out.trans hl)
    clear hl
    go_wp2_with fail
    go_ret
    exact ⟨rfl, hL.out⟩
  · have hlt2 : (300 : Int) < n := by omega
    go_enter Try.func3, Try.ntmps3
    go_wp2_with fail
    refine (HML.out w).mono ?_
    rintro e w4 ⟨rfl, hl⟩
    go_wp2_with fail
    go_ret
    exact ⟨rfl, hl⟩
set_option maxHeartbeats 1600000 in
theorem pia_walk (HT : PiTwos) (HN : PiNodes) (HH : PiHass) (A : Option Addr) (n c : Nat) (t : List Int) (H : Nat) (w : World) (hn : n ≤ 140737488355328) (hnc : n ≤ c) (hH : H < 18446744073709551616) (hb : Ns w w.heap.size A n t) :
    Calls Try.prog 5 #[.slice A n c, .int .u64 H] w fun e w' => e = .returned (.bool true) ∧ Low w w' := by
  have HML := Lib.hid fun u => pilives_any HT HN HH u
  have HTT := Lib.hid (fun u (h1 : n ≤ 1000) hu => HT A n c t H u h1 hnc hH hu)
  have HNN := Lib.hid (fun u (h1 : n ≤ 1000) hu => HN A n c t u h1 hnc hu)
  have HHH := Lib.hid (fun u node (h1 : n ≤ 1000) hk hu => HH A n c t node u h1 hnc hk hu)
  have HA0 := Lib.hid (fun h => @apart0 t h H)
  have HA1 := Lib.hid (fun h => @apart1 t h H)
  have HA2 := Lib.hid (fun h => @apart2 t h H)
  have HIK := Lib.hid (show ∀ x, hasP t x = true → i64ok x from fun x hx => hb.all x ((nodesP_nodes t).2 x |>.1 (hasP_iff.1 hx)).1)
  have HB := Lib.hid hb
  have HNL := Lib.hid (show (nodesP t).length = 0 → nodesP t = [] from fun h => List.eq_nil_of_length_eq_zero h)
  clear hb HT HN HH hH
  generalize firstP t H = f at *
  generalize secondP t H = s at *
  by_cases hlt : n ≤ 300
  · have hlt2 : ¬ (300 : Int) < n := by omega
    go_enter Try.func5, Try.ntmps5
    go_wp2_with fail
    refine (HTT.out w (by omega) HB.out).mono ?_
    rintro e w2 ⟨rfl, hl⟩
    have hL := Lib.hid hl
    replace HB := Lib.hid (HB.out.below' hl hl.size)
    clear hl
    go_wp2_with fail
    refine (HNN.out w2 (by omega) HB.out).mono ?_
    rintro e w3 ⟨A3, c3, rfl, _, _, _, hl⟩
    replace hL := Lib.hid (hL.out.trans hl)
    replace HB := Lib.hid (HB.out.below' hl hl.size)
    clear hl
    by_cases h0 : (nodesP t).length = 0
    · obtain ⟨e1, e2⟩ := HA0.out (HNL.out h0)
      rw [h0]
      subst e1 e2
      go_wp2_with fail
      refine (HML.out w3).mono ?_
      rintro e w4 ⟨rfl, hl⟩
      replace hL := Lib.hid (hL.out.trans hl)
      clear hl
      go_wp2_with fail
      go_ret
      exact ⟨rfl, hL.out⟩
    · by_cases h1 : (nodesP t).length = 1
      · obtain ⟨e1, e2⟩ := HA1.out h1
        rw [h1]
        subst e2
        go_wp2_with fail
        refine (HHH.out w3 f (by omega) (HIK.out f e1) HB.out).mono ?_
        rintro e w4 ⟨rfl, hl⟩
        rw [e1]
        replace hL := Lib.hid (hL.out.trans hl)
        clear hl
        go_wp2_with fail
        refine (HML.out w4).mono ?_
        rintro e w5 ⟨rfl, hl⟩
        replace hL := Lib.hid (hL.out.trans hl)
        clear hl
        go_wp2_with fail
        go_ret
        exact ⟨rfl, hL.out⟩
      · obtain ⟨e1, e2, e3⟩ := HA2.out (by omega)
        have hl0 : ¬ ((nodesP t).length : Int) = 0 := by omega
        have hl1 : ¬ ((nodesP t).length : Int) = 1 := by omega
        have HE := Lib.hid (And.intro e1 e2)
        have hfs : (f != s) = true := by simpa using e3
        generalize (nodesP t).length = k at *
        clear e1 e2
        go_wp2_with fail
        refine (HHH.out w3 f (by omega) (HIK.out f HE.out.1) HB.out).mono ?_
        rintro e w4 ⟨rfl, hl⟩
        rw [HE.out.1]
        replace hL := Lib.hid (hL.out.trans hl)
        replace HB := Lib.hid (HB.out.below' hl hl.size)
        clear hl
        go_wp2_with fail
        refine (HHH.out w4 s (by omega) (HIK.out s HE.out.2) HB.out).mono ?_
        rintro e w5 ⟨rfl, hl⟩
        rw [HE.out.2]
        replace hL := Lib.hid (hL.out.trans hl)
        clear hl
        go_wp2_with fail
        refine (HML.out w5).mono ?_
        rintro e w6 ⟨rfl, hl⟩
        replace hL := Lib.hid (hL.out.trans hl)
        clear hl
        go_wp2_with fail
        go_ret
        exact ⟨rfl, hL.out⟩
  · have hlt2 : (300 : Int) < n := by omega
    go_enter Try.func5, Try.ntmps5
    go_wp2_with fail
    refine (HML.out w).mono ?_
    rintro e w4 ⟨rfl, hl⟩
    go_wp2_with fail
    go_ret
    exact ⟨rfl, hl⟩
end Go.Proofs.Ythcigbkionnmjaa
