/- What the laws' own small test of packets answers: true, where the program's own functions tell what the page says. Conditions: these. -/
import Derived.Test.YtdpbhhoabnmbpaaGreatPkJ
import Derived.Test.YtdpbhhoabnmbpaaGreatPkH
import Derived.Test.YtdpbhhoabnmbpaaGreatPkF
set_option maxRecDepth 100000
namespace Go.Proofs.YtdpbhhoabnmbpaaGreat
open Go.RowKit
set_option linter.unusedVariables false

/-- what the program's own functions are to tell -/
def PktParses : Prop := ∀ (A : Option Addr) (n c : Nat) (xs : List Int) (w : World), n ≤ 140737488351232 → n ≤ c → c ≤ 9223372036854775807 → Bs w w.heap.size A n xs →
  Calls Tryz.prog 6 #[.slice A n c] w (GivesPk w xs)
def PktTcps : Prop := ∀ (s d : List Int) (t : Sg) (w : World), s.length = 16 → d.length = 16 → AllB s → AllB d → t.ok w w.heap.size →
  Calls Tryz.prog 13 #[addrV s, addrV d, segV t] w (GivesBE w (tcpL s d t.v) (tcpE s d t.v))
def PktIcmps : Prop := ∀ (s d : List Int) (m : Mg) (w : World), s.length = 16 → d.length = 16 → AllB s → AllB d → m.ok w w.heap.size → m.bm ≤ 140737488347136 →
  Calls Tryz.prog 15 #[addrV s, addrV d, msgV m] w (GivesBE w (icmpL s d m.v) (icmpE s d m.v))
def PktReasons : Prop := ∀ (x : Int) (w : World), i64ok x →
  Calls Tryz.prog 10 #[.int .i64 x] w fun e w' => e = .returned (.int .i64 (reasonK x)) ∧ Below w.heap.size w w'

def exQA (k : Int) : List Int := [0, 0, 0, 0, 0, 0, 0, 0, 0, 0, 0, 0, 0, 0, 0, k]
def exQT : Sg := ⟨1, 2, 0, 0, 0, 0, 0, 0, none, 0, 0, [], none, 0, 0, []⟩
theorem exQA_all (k : Int) (h : 0 ≤ k ∧ k < 256) : AllB (exQA k) := by
  intro b hb
  simp only [exQA, List.mem_cons, List.not_mem_nil, or_false] at hb
  omega
theorem exQT_ok (w : World) (B : Nat) : exQT.ok w B :=
  ⟨by simp [exQT, i64ok], by simp [exQT, i64ok], by simp [exQT], by simp [exQT], by simp [exQT, i64ok], by simp [exQT, i64ok], by simp [exQT, i64ok], by simp [exQT, i64ok], by simp [exQT], Os.nil _ _ _, by simp [exQT], Bs.nil _ _ _⟩
theorem exQT_e : tcpE (exQA 1) (exQA 2) exQT.v = 0 := by decide +kernel
theorem exQT_len : (tcpL (exQA 1) (exQA 2) exQT.v).length = 60 := by decide +kernel
theorem exQT_back : pkE (tcpL (exQA 1) (exQA 2) exQT.v) = 0 ∧ (pkB (tcpL (exQA 1) (exQA 2) exQT.v)).k = 6 ∧ (pkB (tcpL (exQA 1) (exQA 2) exQT.v)).f = exQA 2 := by
  obtain ⟨-, h2, h3, -⟩ := tcp_back (s := exQA 1) (d := exQA 2) rfl rfl (exQA_all 1 (by omega)) (exQA_all 2 (by omega)) (x := exQT.v) (fun b hb => by cases hb) (fun o ho => by cases ho) (by simp [exQT, Sg.v]) (by simp [exQT, Sg.v]) exQT_e
  exact ⟨h2, by rw [h3], by rw [h3]⟩
theorem pkE_short {xs : List Int} (h : xs.length < 40) : pkE xs = 3 := by
  refine pk_none ?_ (by omega)
  unfold preE
  rcases getE_cases xs with ⟨g1, e1, e2⟩ | ⟨g1, g2, e1, e2⟩ | ⟨g1, g2, e1, e2⟩
  · rw [if_neg (by omega), if_neg (by rw [e1]; omega)]
    exact e1
  · omega
  · omega
theorem GivesPk.lens {w w' : World} {xs : List Int} {e : Ending} (h : GivesPk w xs e w') : ∃ q : Pq, e = .returned (.tuple #[pqV q, .int .i64 (pkE xs)]) ∧ q.v = pkB xs ∧ q.ok w' w'.heap.size ∧ Below w.heap.size w w' ∧ q.h.s.length = 16 ∧ q.h.d.length = 16 ∧ q.f.length = 16 := by
  obtain ⟨q, h1, h2, h3, h4⟩ := h
  exact ⟨q, h1, h2, h3, h4, h3.h.s, h3.h.d, h3.fl⟩

set_option maxRecDepth 100000 in
set_option maxHeartbeats 1600000 in
theorem pklives_any (hT : PktTcps) (hP : PktParses) (hR : PktReasons) (w : World) : Calls Tryz.prog 12 #[] w fun e w' => e = .returned (.bool true) ∧ Below w.heap.size w w' := by
  have HT := Lib.hid hT
  have HP := Lib.hid hP
  have HR := Lib.hid hR
  clear hT hP hR
  go_enter Tryz.func12, Tryz.ntmps12
  go_wp2_with fail
  refine (HT.out (exQA 1) (exQA 2) exQT w rfl rfl (exQA_all 1 (by omega)) (exQA_all 2 (by omega)) (exQT_ok _ _)).mono ?_
  rintro e w1 ⟨A, c, rfl, hb, hc, hB⟩
  rw [exQT_e, exQT_len]
  rw [exQT_len] at hb hc
  obtain ⟨hE, hK, hF⟩ := exQT_back
  generalize tcpL (exQA 1) (exQA 2) exQT.v = xs at *
  have HX := Lib.hid (And.intro hE (And.intro hK hF))
  have HB := Lib.hid hb
  have hc1 := hc.1
  have hc2 := hc.2
  have hL : Low w w1 := hB
  clear hb hc hE hK hF hB
  go_wp2_with fail
  refine (HP.out A 60 c xs w1 (by omega) hc1 hc2 HB.out).mono ?_
  intro e w2 hq
  obtain ⟨q, rfl, hqv, hqk, hB2, l1, l2, l3⟩ := hq.lens
  rw [HX.out.1]
  have HQK : Hid (q.k = 6) := Lib.hid ((congrArg Pb.k hqv).trans HX.out.2.1)
  have HQF : Hid (q.f = exQA 2) := Lib.hid ((congrArg Pb.f hqv).trans HX.out.2.2)
  have L1 := Lib.hid l1
  have L2 := Lib.hid l2
  have L3 := Lib.hid l3
  have hl2 : Low w1 w2 := hB2
  replace hL := hL.trans hl2
  replace HB := Lib.hid (HB.out.below' hl2 hl2.size)
  obtain ⟨b, o, rfl, hbl, -⟩ := HB.out.mem (by omega)
  have HB39 : Hid (Bs w2 w2.heap.size (some ⟨b, o, none⟩) 39 (xs.take 39)) := Lib.hid (HB.out.cutUpto (m := 39) (by omega))
  have HE39 := Lib.hid (pkE_short (xs := xs.take 39) (by rw [List.length_take]; omega))
  clear hq hqv hqk hB2 hl2 l1 l2 l3 hbl HX HB
  unfold pqV
  go_wp2_with ((with_reducible refine wpList_alloc_pq pkt_own rfl rfl ?_); intro w3 HZ hl3 hz3; refine Hid.out ?_)
  refine Lib.hid ?_
  go_wp2_with ((refine wpList_store_pq pkt_own rfl (.tmp 3) (.tmp 17) rfl w2.heap.size rfl q rfl zeroQ HZ rfl rfl rfl L1.out L2.out L3.out ?_); intro w4 HG hb4 hz4 ho4; refine Hid.out ?_)
  refine Lib.hid ?_
  have hl4 : Low w2 w4 := Below.trans hl3 hb4
  replace hL := hL.trans hl4
  replace HB39 := Lib.hid (HB39.out.below' hl4 hl4.size)
  replace HG := Lib.hid HG
  obtain ⟨g, hg⟩ : ∃ g, g = w2.heap.size := ⟨_, rfl⟩
  rw [← hg] at HG ⊢
  have hc39 : (39 : Int) ≤ c := by omega
  clear HZ hl3 hb4 hz3 hz4 ho4 hl4 hg
  go_wp2_with fail
  refine (HP.out (some ⟨b, o, none⟩) 39 c (xs.take 39) w4 (by omega) (by omega) hc2 HB39.out).mono ?_
  intro e w5 hq
  obtain ⟨q2, rfl, -, -, hB5, m1, m2, m3⟩ := hq.lens
  rw [HE39.out]
  have M1 := Lib.hid m1
  have M2 := Lib.hid m2
  have M3 := Lib.hid m3
  have hl5 : Low w4 w5 := hB5
  replace hL := hL.trans hl5
  replace HG := Lib.hid (HG.out.below hl5 HG.out.lt)
  have hlg := HG.out.lt
  clear hq hB5 hl5 m1 m2 m3 HB39 HE39
  unfold pqV
  go_wp2_with ((with_reducible refine wpList_alloc_pq pkt_own rfl rfl ?_); intro w6 HZ hl6 hz6; refine Hid.out ?_)
  refine Lib.hid ?_
  go_wp2_with ((refine wpList_store_pq pkt_own rfl (.tmp 5) (.tmp 26) rfl w5.heap.size rfl q2 rfl zeroQ HZ rfl rfl rfl M1.out M2.out M3.out ?_); intro w7 HG2 hb7 hz7 ho7; refine Hid.out ?_)
  refine Lib.hid ?_
  have hl7 : Low w5 w7 := Below.trans hl6 hb7
  replace hL := hL.trans hl7
  replace HG := Lib.hid (HG.out.below hl7 hlg)
  have k60 := rangeAt_one (HG.out.kd L1.out L2.out L3.out)
  have k59 : w7.cell? ⟨g, 59, none⟩ = some (.int .u8 2) := HG.out.fin L1.out L2.out L3.out 15 _ (by rw [HQF.out]; rfl)
  rw [HQK.out] at k60
  clear HZ HG2 hl6 hb7 hz6 hz7 ho7 hl7 HG hlg
  go_wp2_with fail
  refine (HR.out 9 w7 (by unfold i64ok; omega)).mono ?_
  rintro e w8 ⟨rfl, hB8⟩
  rw [show reasonK 9 = 2 from rfl]
  have hL8 := Low.trans hL hB8
  clear k60 k59
  go_wp2_with fail
  go_ret
  exact ⟨rfl, hL8⟩
end Go.Proofs.YtdpbhhoabnmbpaaGreat
