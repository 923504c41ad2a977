/- What the program's own holding, headers and routed of packets tell. Conditions: at most 2^47 bytes; what is handed in is a packet. -/
import Derived.Test.YtjafjapnmffohaaGreatDoorPkM
set_option maxRecDepth 100000
namespace Go.Proofs.YtjafjapnmffohaaGreatDoor
open Go.RowKit
set_option linter.unusedVariables false

theorem as_ss (v : Value) (w : World) : (Instr.typeAssert (.iface 91 v) 61 91 true).run Tryz.prog w = .ok (.tuple #[v, .bool true]) w := by kernel_rfl
theorem as_ms (v : Value) (w : World) : (Instr.typeAssert (.iface 93 v) 61 91 true).run Tryz.prog w = .ok (.tuple #[.pointer none, .bool false]) w := by kernel_rfl
theorem as_mm (v : Value) (w : World) : (Instr.typeAssert (.iface 93 v) 61 93 true).run Tryz.prog w = .ok (.tuple #[v, .bool true]) w := by kernel_rfl
theorem wpList_load_sgm {ops : Array Oper} {rest : List Oper} {o : Oper} {a : Act} {w : World} {Q : Exit → Act → World → Prop} (hgd : o.guard = none) (x : Operand) (ho : o.op = .load 92 x) (g : Nat) (hx : a.eval x = .pointer (some ⟨g, 0, none⟩)) (t : Sg) (hb : BlkV w 92 g (segC t))
    (hk : wpList Tryz.prog ops Q rest (a.put o.dst (.agg (segC t).toArray)) w) : wpList Tryz.prog ops Q (o :: rest) a w :=
  wpList_load_row hgd 92 x ho g hx _ (segC t).toArray (0, 0) _ hb Tryz.underlying92 rfl (by rw [sgm_size]; rfl) hk
theorem wpList_load_mgm {ops : Array Oper} {rest : List Oper} {o : Oper} {a : Act} {w : World} {Q : Exit → Act → World → Prop} (hgd : o.guard = none) (x : Operand) (ho : o.op = .load 94 x) (g : Nat) (hx : a.eval x = .pointer (some ⟨g, 0, none⟩)) (t : Mg) (hb : BlkV w 94 g (msgC t))
    (hk : wpList Tryz.prog ops Q rest (a.put o.dst (.agg (msgC t).toArray)) w) : wpList Tryz.prog ops Q (o :: rest) a w :=
  wpList_load_row hgd 94 x ho g hx _ (msgC t).toArray (0, 0) _ hb Tryz.underlying94 rfl (by rw [mgm_size]; rfl) hk

set_option maxRecDepth 100000 in
set_option maxHeartbeats 3200000 in
theorem holdseg_any (g : Nat) (p : Pq) (t : Sg) (w : World) (l1 : p.h.s.length = 16) (l2 : p.h.d.length = 16) (l3 : p.f.length = 16) (hg : BlkV w 92 g (segC t)) :
    Calls Tryz.prog 14 #[pqV p, .iface 91 (.pointer (some ⟨g, 0, none⟩))] w fun e w' => e = .returned (pqV (setTc t (setKd 6 p))) ∧ Below w.heap.size w w' := by
  unfold pqV
  have L1 := Lib.hid l1
  have L2 := Lib.hid l2
  have L3 := Lib.hid l3
  have HG := Lib.hid hg
  have hgl := hg.lt
  have h1 := as_ss
  have h2 := as_ms
  have h3 := as_mm
  clear l1 l2 l3 hg
  go_enter Tryz.func14, Tryz.ntmps14
  go_wp2_with (first
    | ((with_reducible refine wpList_box_pq rfl (.tmp 0) rfl p rfl ?_); intro w1 HK hL hz1)
    | ((with_reducible refine wpList_alloc_pq pkt_own rfl rfl ?_); intro w2 HZ hl2 hz2; refine Hid.out ?_))
  refine Lib.hid ?_
  rw [hz1] at HZ
  replace HK := Lib.hid (HK.below hl2 HK.lt)
  replace hL := hL.trans hl2
  replace HG := Lib.hid (HG.out.below hL hgl)
  replace HZ := Lib.hid HZ
  clear hz1 hz2 hl2
  go_wp2_with fail
  refine (segkind_any _ w2).mono ?_
  rintro e w3 ⟨rfl, h⟩
  rw [h]
  clear h w3
  have k60 := rangeAt_one (HK.out.kd L1.out L2.out L3.out)
  have f60 := HK.out.room 60
  have HK6 : Hid (BlkQ 38 (w2.setCell ⟨w.heap.size, 60, none⟩ (.int .i64 6)) w.heap.size (setKd 6 p)) := Lib.hid (HK.out.setKd L1.out L2.out L3.out 6)
  have HG6 : Hid (BlkV (w2.setCell ⟨w.heap.size, 60, none⟩ (.int .i64 6)) 92 g (segC t)) := Lib.hid (HG.out.far (by show g ≠ w.heap.size; omega) _)
  have HZ6 : Hid (BlkQ 38 (w2.setCell ⟨w.heap.size, 60, none⟩ (.int .i64 6)) (w.heap.size + 1) zeroQ) := Lib.hid (BlkV.far HZ.out (by show w.heap.size + 1 ≠ w.heap.size; omega) _)
  have hL6 : Low w (w2.setCell ⟨w.heap.size, 60, none⟩ (.int .i64 6)) := hL.setCell (Nat.le_refl _) _
  clear HK HG HZ hL
  go_wp2_with ((with_reducible refine wpList_load_sgm rfl (.tmp 15) rfl g rfl t HG6.out ?_); refine Hid.out ?_)
  refine Lib.hid ?_
  clear k60 f60 HG6
  generalize w2.setCell ⟨w.heap.size, 60, none⟩ (.int .i64 6) = w4 at *
  have M1 : Hid ((setKd 6 p).h.s.length = 16) := L1
  have M2 : Hid ((setKd 6 p).h.d.length = 16) := L2
  have M3 : Hid ((setKd 6 p).f.length = 16) := L3
  go_wp2_with ((refine wpList_store_tc rfl (.tmp 17) (.tmp 16) rfl w.heap.size rfl t rfl (setKd 6 p) HK6.out M1.out M2.out M3.out ?_); intro w5 HK7 hb5 hz5 ho5; refine Hid.out ?_)
  refine Lib.hid ?_
  have HK8 := Lib.hid HK7
  have HZ8 : Hid (BlkQ 38 w5 (w.heap.size + 1) zeroQ) := Lib.hid (HZ6.out.stay (ho5 _ (by omega)))
  have hL8 : Low w w5 := Below.trans hL6 hb5
  have N1 : Hid ((setTc t (setKd 6 p)).h.s.length = 16) := L1
  have N2 : Hid ((setTc t (setKd 6 p)).h.d.length = 16) := L2
  have N3 : Hid ((setTc t (setKd 6 p)).f.length = 16) := L3
  clear HK6 HK7 HZ6 hL6 hb5 hz5 ho5
  go_wp2_with ((with_reducible refine wpList_load_pq pkt_own rfl (.tmp 2) rfl w.heap.size rfl (setTc t (setKd 6 p)) HK8.out N1.out N2.out N3.out ?_); refine Hid.out ?_)
  refine Lib.hid ?_
  go_wp2_with ((refine wpList_store_pq pkt_own rfl (.tmp 4) (.tmp 25) rfl (w.heap.size + 1) rfl (setTc t (setKd 6 p)) rfl zeroQ HZ8.out rfl rfl rfl N1.out N2.out N3.out ?_); intro w9 HG9 hb9 hz9 ho9; refine Hid.out ?_)
  refine Lib.hid ?_
  have HR := Lib.hid HG9
  go_wp2_with fail
  exact ret_pq1 pkt_own Tryz.results14 rfl HR.out N1.out N2.out N3.out ⟨rfl, Below.trans hL8 (hb9.mono (by omega))⟩ rfl

set_option maxRecDepth 100000 in
set_option maxHeartbeats 3200000 in
theorem holdmsg_any (g : Nat) (p : Pq) (t : Mg) (w : World) (l1 : p.h.s.length = 16) (l2 : p.h.d.length = 16) (l3 : p.f.length = 16) (hg : BlkV w 94 g (msgC t)) :
    Calls Tryz.prog 14 #[pqV p, .iface 93 (.pointer (some ⟨g, 0, none⟩))] w fun e w' => e = .returned (pqV (setMs t (setKd 58 p))) ∧ Below w.heap.size w w' := by
  unfold pqV
  have L1 := Lib.hid l1
  have L2 := Lib.hid l2
  have L3 := Lib.hid l3
  have HG := Lib.hid hg
  have hgl := hg.lt
  have h1 := as_ss
  have h2 := as_ms
  have h3 := as_mm
  clear l1 l2 l3 hg
  go_enter Tryz.func14, Tryz.ntmps14
  go_wp2_with (first
    | ((with_reducible refine wpList_box_pq rfl (.tmp 0) rfl p rfl ?_); intro w1 HK hL hz1)
    | ((with_reducible refine wpList_alloc_pq pkt_own rfl rfl ?_); intro w2 HZ hl2 hz2; refine Hid.out ?_))
  refine Lib.hid ?_
  rw [hz1] at HZ
  replace HK := Lib.hid (HK.below hl2 HK.lt)
  replace hL := hL.trans hl2
  replace HG := Lib.hid (HG.out.below hL hgl)
  replace HZ := Lib.hid HZ
  clear hz1 hz2 hl2
  go_wp2_with fail
  refine (msgkind_any _ w2).mono ?_
  rintro e w3 ⟨rfl, h⟩
  rw [h]
  clear h w3
  have k60 := rangeAt_one (HK.out.kd L1.out L2.out L3.out)
  have f60 := HK.out.room 60
  have HK6 : Hid (BlkQ 38 (w2.setCell ⟨w.heap.size, 60, none⟩ (.int .i64 58)) w.heap.size (setKd 58 p)) := Lib.hid (HK.out.setKd L1.out L2.out L3.out 58)
  have HG6 : Hid (BlkV (w2.setCell ⟨w.heap.size, 60, none⟩ (.int .i64 58)) 94 g (msgC t)) := Lib.hid (HG.out.far (by show g ≠ w.heap.size; omega) _)
  have HZ6 : Hid (BlkQ 38 (w2.setCell ⟨w.heap.size, 60, none⟩ (.int .i64 58)) (w.heap.size + 1) zeroQ) := Lib.hid (BlkV.far HZ.out (by show w.heap.size + 1 ≠ w.heap.size; omega) _)
  have hL6 : Low w (w2.setCell ⟨w.heap.size, 60, none⟩ (.int .i64 58)) := hL.setCell (Nat.le_refl _) _
  clear HK HG HZ hL
  go_wp2_with ((with_reducible refine wpList_load_mgm rfl (.tmp 22) rfl g rfl t HG6.out ?_); refine Hid.out ?_)
  refine Lib.hid ?_
  clear k60 f60 HG6
  generalize w2.setCell ⟨w.heap.size, 60, none⟩ (.int .i64 58) = w4 at *
  have M1 : Hid ((setKd 58 p).h.s.length = 16) := L1
  have M2 : Hid ((setKd 58 p).h.d.length = 16) := L2
  have M3 : Hid ((setKd 58 p).f.length = 16) := L3
  go_wp2_with ((refine wpList_store_ms rfl (.tmp 24) (.tmp 23) rfl w.heap.size rfl t rfl (setKd 58 p) HK6.out M1.out M2.out M3.out ?_); intro w5 HK7 hb5 hz5 ho5; refine Hid.out ?_)
  refine Lib.hid ?_
  have HK8 := Lib.hid HK7
  have HZ8 : Hid (BlkQ 38 w5 (w.heap.size + 1) zeroQ) := Lib.hid (HZ6.out.stay (ho5 _ (by omega)))
  have hL8 : Low w w5 := Below.trans hL6 hb5
  have N1 : Hid ((setMs t (setKd 58 p)).h.s.length = 16) := L1
  have N2 : Hid ((setMs t (setKd 58 p)).h.d.length = 16) := L2
  have N3 : Hid ((setMs t (setKd 58 p)).f.length = 16) := L3
  clear HK6 HK7 HZ6 hL6 hb5 hz5 ho5
  go_wp2_with ((with_reducible refine wpList_load_pq pkt_own rfl (.tmp 2) rfl w.heap.size rfl (setMs t (setKd 58 p)) HK8.out N1.out N2.out N3.out ?_); refine Hid.out ?_)
  refine Lib.hid ?_
  go_wp2_with ((refine wpList_store_pq pkt_own rfl (.tmp 4) (.tmp 25) rfl (w.heap.size + 1) rfl (setMs t (setKd 58 p)) rfl zeroQ HZ8.out rfl rfl rfl N1.out N2.out N3.out ?_); intro w9 HG9 hb9 hz9 ho9; refine Hid.out ?_)
  refine Lib.hid ?_
  have HR := Lib.hid HG9
  go_wp2_with fail
  exact ret_pq1 pkt_own Tryz.results14 rfl HR.out N1.out N2.out N3.out ⟨rfl, Below.trans hL8 (hb9.mono (by omega))⟩ rfl

/-- the headers that are told -/
def GivesHs (w : World) (xs : List Int) (e : Ending) (w' : World) : Prop :=
  (∃ (h : Hd) (A : Option Addr) (n c : Nat), e = .returned (.tuple #[headV h, .slice A n c, .int .i64 (hdE xs)]) ∧ (h.s.length = 16 ∧ h.d.length = 16) ∧ (hdE xs = 0 → h = getL xs ∧ n = (pkW xs).1.length ∧ Ps w' w'.heap.size A n (pkW xs).1)) ∧ Below w.heap.size w w'
theorem GivesHs.no {w w' : World} {xs : List Int} {k : Int} (h : hdE xs = k) (hk : k ≠ 0) (hB : Below w.heap.size w w') : GivesHs w xs (.returned (.tuple #[headV zeroH, .slice none 0 0, .int .i64 k])) w' :=
  ⟨⟨zeroH, none, 0, 0, by rw [h], ⟨rfl, rfl⟩, fun e => absurd e (by rw [h]; exact hk)⟩, hB⟩
theorem ret_hs {w : World} {fn : Func} {p q r : Tmp} {tmps : Array Value} {df : List Deferred} {g : Nat} {h : Hd} {u v : Value} {R : Ending → World → Prop} (hfn : fn.results = #[.cell p 26, .tmp q, .tmp r]) (hp : tmps.getD p undef = .pointer (some ⟨g, 0, none⟩)) (hq : tmps.getD q undef = u) (hr : tmps.getD r undef = v)
    (hb : BlkH w g h) (hs : h.s.length = 16) (hd : h.d.length = 16) (hR : R (.returned (.tuple #[headV h, u, v])) w) (hdf : df = []) : bodyPost Tryz.prog fn R .ret ⟨tmps, df⟩ w :=
  bodyPost_ret (results_cell_tmp2 hfn tmps w g _ _ _ _ _ _ hp hq hr hb Tryz.underlying26 rfl (by rw [head_size]; simp [headC_length hs hd])) hdf hR
theorem first_lat {ps : List Pt} {v : Int} (h : IsFirst (ps.drop 1) 43 0 v) : latB ps = decide (0 ≤ v) := by
  unfold latB
  rcases h with ⟨rfl, h⟩ | ⟨i, rfl, -, hl, hk, -⟩
  · rw [decide_eq_false (by omega), List.any_eq_false]
    intro q hq
    obtain ⟨i, hi⟩ := List.mem_iff_getElem?.1 hq
    have hlt := (List.getElem?_eq_some_iff.1 hi).1
    have := h i (Nat.zero_le _) hlt
    rw [show (ps.drop 1).getD i zeroP = q by simp only [List.getD, hi, Option.getD_some]] at this
    simpa using this
  · rw [decide_eq_true (by omega), List.any_eq_true]
    refine ⟨(ps.drop 1).getD i zeroP, ?_, by rw [hk]; rfl⟩
    rw [List.mem_iff_getElem?]
    exact ⟨i, by rw [List.getElem?_eq_getElem hl]; simp only [List.getD, List.getElem?_eq_getElem hl, Option.getD_some]⟩
theorem slcP_from {b o n c : Nat} (hc : n ≤ c) (h1 : 1 ≤ n) :
    ∃ A', (∀ u, (Instr.sliceAt 51 (.slice (some ⟨b, o, none⟩) n c) (some (.int .i64 1)) none none).run Tryz.prog u = .ok (.slice A' (n - 1) (c - 1)) u) ∧ (0 < n - 1 → A' = some ⟨b, o + 3, none⟩) := by
  have i1 : (1 : Int) ≤ n := by omega
  have i2 : (1 : Int) ≤ c := by omega
  have i4 : (n : Int) ≤ c := by omega
  by_cases h : c = 1
  · obtain rfl : n = 1 := by omega
    subst h
    refine ⟨some ⟨b, o, none⟩, fun u => by go_simp, fun h => by omega⟩
  · refine ⟨some ⟨b, o + 3, none⟩, fun u => by go_simp, fun _ => rfl⟩
theorem Ps.otherP {w w' : World} {B n b o g : Nat} {ps : List Pt} (h : Ps w B (some ⟨b, o, none⟩) n ps) (hk : ∀ k : Nat, k ≠ g → w'.heap[k]? = w.heap[k]?) (hg : b ≠ g) : Ps w' B (some ⟨b, o, none⟩) n ps :=
  ⟨h.len, h.all, fun hn => by
    obtain ⟨b', o', e, hb, hc⟩ := h.mem hn
    injection e with e
    injection e with e1 e2 _
    subst e1 e2
    exact ⟨_, _, rfl, hb, fun i hi => ⟨(World.cell?_of_block (hk _ hg)).trans (hc i hi).1, (World.cell?_of_block (hk _ hg)).trans (hc i hi).2.1, (World.cell?_of_block (hk _ hg)).trans (hc i hi).2.2⟩⟩⟩
theorem Ps.tail {w : World} {B n b o : Nat} {A' : Option Addr} {ps : List Pt} (h : Ps w B (some ⟨b, o, none⟩) n ps) (h1 : 1 ≤ n) (hA : 0 < n - 1 → A' = some ⟨b, o + 3, none⟩) : Ps w B A' (n - 1) (ps.drop 1) :=
  ⟨by rw [List.length_drop, h.len], fun p hp => h.all p (List.mem_of_mem_drop hp), fun hn => by
    obtain ⟨b', o', e, hb, hc⟩ := h.mem (by omega)
    injection e with e
    injection e with e1 e2 _
    subst e1 e2
    refine ⟨_, _, hA hn, hb, fun i hi => ?_⟩
    have := hc (1 + i) (by omega)
    rw [show o + (1 + i) * 3 = o + 3 + i * 3 by omega] at this
    rw [show (ps.drop 1).getD i zeroP = ps.getD (1 + i) zeroP by simp [List.getD, Nat.add_comm]]
    exact this⟩

set_option maxRecDepth 100000 in
set_option maxHeartbeats 6400000 in
theorem headers_any (A : Option Addr) (n c : Nat) (xs : List Int) (w : World) (hn : n ≤ 140737488351232) (hc : n ≤ c) (hc2 : c ≤ 9223372036854775807) (hb : Bs w w.heap.size A n xs) :
    Calls Tryz.prog 8 #[.slice A n c] w (GivesHs w xs) := by
  have HB := Lib.hid hb
  have HLN := Lib.hid hb.len
  clear hb
  go_enter Tryz.func8, Tryz.ntmps8
  go_wp2_with ((with_reducible refine wpList_alloc_v rfl 26 rfl (headC zeroH) (by kernel_rfl) ?_); intro w1 HR hL hz1; refine Hid.out ?_)
  refine Lib.hid ?_
  replace HR : Hid (BlkH w1 w.heap.size zeroH) := Lib.hid HR
  clear hz1
  by_cases h1500 : 1500 < n
  · have HE := Lib.hid (show hdE xs = 4 by unfold hdE; rw [if_pos (by rw [HLN.out]; exact h1500)])
    have d1 : decide (1500 < (n : Int)) = true := by simp; omega
    go_wp2_with (first | (with_reducible refine wpList_build0 (headC zeroH) build0_head rfl rfl ?_) | ((refine wpList_store_headB rfl (.tmp 2) (.tmp 11) rfl w.heap.size rfl zeroH rfl zeroH HR.out rfl rfl rfl rfl ?_); intro w4 HG hb4 hz4 ho4; refine Hid.out ?_))
    refine Lib.hid ?_
    replace HG := Lib.hid HG
    go_wp2_with fail
    exact ret_hs Tryz.results8 rfl rfl rfl HG.out rfl rfl (GivesHs.no HE.out (by omega) (Below.trans hL hb4)) rfl
  · have d1 : decide (1500 < (n : Int)) = false := by simp; omega
    go_wp2_with fail
    refine (get_any A n c xs w1 (by omega) hc hc2 (HB.out.below' hL hL.size)).mono ?_
    rintro e w3 ⟨rfl, hl⟩
    obtain ⟨h, hh⟩ : ∃ h, h = getH xs := ⟨_, rfl⟩
    obtain ⟨er, her⟩ : ∃ er, er = getE xs := ⟨_, rfl⟩
    rw [← hh, ← her]
    have HHO := Lib.hid (show h.ok by rw [hh]; exact getH_ok HB.out.all)
    have HS := Lib.hid HHO.out.s
    have HD := Lib.hid HHO.out.d
    have HER := Lib.hid her
    have HH := Lib.hid hh
    have hl3 : Low w1 w3 := hl
    replace HR := Lib.hid (HR.out.below hl3 HR.out.lt)
    replace hL := hL.trans hl3
    clear hl hl3 hh her
    unfold headV
    go_wp2_with ((with_reducible refine wpList_alloc_v rfl 26 rfl (headC zeroH) (by kernel_rfl) ?_); intro w4 HY hl4 hz4; refine Hid.out ?_)
    refine Lib.hid ?_
    have HY4 : Hid (BlkH w4 w3.heap.size zeroH) := Lib.hid HY
    have hlr := HR.out.lt
    go_wp2_with ((refine wpList_store_headB rfl (.tmp 5) (.tmp 15) rfl w3.heap.size rfl h rfl zeroH HY4.out rfl rfl HS.out HD.out ?_); intro w5 HG5 hb5 hz5 ho5; refine Hid.out ?_)
    refine Lib.hid ?_
    have hl5 : Low w3 w5 := Below.trans hl4 hb5
    replace HR := Lib.hid (HR.out.below hl5 HR.out.lt)
    replace hL := hL.trans hl5
    have hw5 : w.heap.size < w5.heap.size := HR.out.lt
    obtain ⟨gH, hgH⟩ : ∃ g, g = w3.heap.size := ⟨_, rfl⟩
    rw [← hgH] at HG5 hlr ⊢
    replace HG5 := Lib.hid HG5
    clear HY HY4 hl4 hz4 hb5 hz5 ho5 hl5 hgH
    have hpE : ¬ 1500 < xs.length := by rw [HLN.out]; exact h1500
    by_cases he : er = 0
    · subst he
      have hE0 : getE xs = 0 := HER.out.symm
      obtain ⟨h40, h6⟩ : 40 ≤ n ∧ h = getL xs := by
        rcases getE_cases xs with ⟨g1, e1, e2⟩ | ⟨g1, g2, e1, e2⟩ | ⟨g1, g2, e1, e2⟩
        · omega
        · exact ⟨by rw [← HLN.out]; exact g1, HH.out.trans e2⟩
        · omega
      have HGL := Lib.hid h6
      clear h6
      have c2 : w5.cell? ⟨gH, 2, none⟩ = some (.int .i64 h.ln) := HG5.out.cell 2
      have c3 : w5.cell? ⟨gH, 3, none⟩ = some (.int .i64 h.nx) := HG5.out.cell 3
      have q40 : IntKind.i64.wrap ((n : Int) - 40) = (n : Int) - 40 := by rw [IntKind.wrap_i64]; omega
      by_cases hln : h.ln = (n : Int) - 40
      · have b2 : (h.ln != (n : Int) - 40) = false := by simpa using hln
        have HLNE := Lib.hid hln
        clear hln
        go_wp2_with fail
        refine (walk_anyC A n c xs h.nx 40 w5 (by omega) (HB.out.below' hL hL.size) HHO.out.nx (by unfold i64ok; omega)).mono ?_
        rintro e w6 ⟨pA, pc, rfl, hps, hpc, hpf, hl⟩
        have hW : pkW xs = walkL xs h.nx 40 := by unfold pkW; rw [← HGL.out]
        obtain ⟨r, hr⟩ : ∃ r, r = walkL xs h.nx 40 := ⟨_, rfl⟩
        rw [← hr] at hW hps hpc hpf ⊢
        obtain ⟨ps, e2⟩ := r
        dsimp only at hps hpc hpf ⊢
        have HW := Lib.hid hW
        have HPS := Lib.hid hps
        obtain ⟨pn, hpn⟩ : ∃ pn, pn = ps.length := ⟨_, rfl⟩
        rw [← hpn] at HPS hpc hpf ⊢
        have HPN := Lib.hid hpn
        have hl6 : Low w5 w6 := hl
        replace HR := Lib.hid (HR.out.below hl6 HR.out.lt)
        replace HG5 := Lib.hid (HG5.out.below hl6 HG5.out.lt)
        replace hL := hL.trans hl6
        have HPRE := Lib.hid (show hdE xs = if e2 = 0 then (if latB ps = true then 7 else 0) else e2 by
          unfold hdE
          rw [if_neg hpE, if_pos hE0, ← HGL.out, HLN.out, if_pos HLNE.out, HW.out])
        clear hr hW hps hl hl6 c2 c3 b2 q40 hpn
        by_cases he2 : e2 = 0
        · subst he2
          have HP0 := Lib.hid (show hdE xs = if latB ps = true then 7 else 0 by rw [HPRE.out, if_pos rfl])
          clear HPRE
          obtain ⟨hz1, hz2, -⟩ := pkW_zero (xs := xs) (by rw [HLN.out]; exact h40) (by rw [HW.out])
          rw [HW.out] at hz2
          have hp0 : 0 < pn := by rw [HPN.out]; exact List.length_pos_iff.2 hz2
          have hp9 : pn ≤ 9 := by
            rw [HPN.out]
            have := walkL_len xs h.nx 40
            have e := congrArg (fun r : List Pt × Int => r.1.length) HW.out
            unfold pkW at e
            rw [← HGL.out] at e
            dsimp only at e
            omega
          obtain ⟨pb, po, rfl, hpf2⟩ := hpf hp0
          have hpw : w.heap.size < pb := by omega
          obtain ⟨A2, hs2, hA2⟩ := slcP_from (b := pb) (o := po) hpc.1 hp0
          have HT := Lib.hid (HPS.out.tail hp0 hA2)
          have HS2 := Lib.hid hs2
          clear hz1 hz2 hs2 hA2
          go_wp2_with (refine slc_wp rfl 51 (.tmp 39) (some (.const (.int .i64 1))) none none rfl _ (HS2.out w6) ?_; refine Hid.out ?_)
          refine Lib.hid ?_
          go_wp2_with fail
          refine (find_any A2 (pn - 1) (pc - 1) (ps.drop 1) 43 w6 (by omega) HT.out).mono ?_
          rintro e w7 ⟨⟨v, rfl, hv⟩, hl⟩
          have HLT := Lib.hid (first_lat hv)
          have hl7 : Low w6 w7 := hl
          replace HR := Lib.hid (HR.out.below hl7 HR.out.lt)
          replace HG5 := Lib.hid (HG5.out.below hl7 HG5.out.lt)
          replace HPS := Lib.hid (HPS.out.below' hl7 hl7.size)
          replace hL := hL.trans hl7
          clear hl hl7 hv HT HS2
          by_cases hv0 : 0 ≤ v
          · have HE := Lib.hid (show hdE xs = 7 by rw [HP0.out, HLT.out, decide_eq_true hv0]; rfl)
            have d2 : decide (0 ≤ v) = true := by simpa using hv0
            go_wp2_with (first | (with_reducible refine wpList_build0 (headC zeroH) build0_head rfl rfl ?_) | ((refine wpList_store_headB rfl (.tmp 2) (.tmp 43) rfl w.heap.size rfl zeroH rfl zeroH HR.out rfl rfl rfl rfl ?_); intro w8 HG hb4 hz4 ho4; refine Hid.out ?_))
            refine Lib.hid ?_
            replace HG := Lib.hid HG
            go_wp2_with fail
            exact ret_hs Tryz.results8 rfl rfl rfl HG.out rfl rfl (GivesHs.no HE.out (by omega) (Below.trans hL hb4)) rfl
          · have HE := Lib.hid (show hdE xs = 0 by rw [HP0.out, HLT.out, decide_eq_false hv0]; rfl)
            have d2 : decide (0 ≤ v) = false := by simpa using hv0
            go_wp2_with ((with_reducible refine wpList_load_head rfl (.tmp 5) rfl gH rfl h HG5.out HS.out HD.out ?_); refine Hid.out ?_)
            refine Lib.hid ?_
            go_wp2_with ((refine wpList_store_headB rfl (.tmp 2) (.tmp 44) rfl w.heap.size rfl h rfl zeroH HR.out rfl rfl HS.out HD.out ?_); intro w8 HG hb4 hz4 ho4; refine Hid.out ?_)
            refine Lib.hid ?_
            replace HG := Lib.hid HG
            have HP8 : Hid (Ps w8 w8.heap.size (some ⟨pb, po, none⟩) pn ps) := Lib.hid ((HPS.out.otherP (fun k hk => ho4 k hk) (by omega)).more (by omega))
            go_wp2_with fail
            exact ret_hs Tryz.results8 rfl rfl rfl HG.out HS.out HD.out ⟨⟨h, some ⟨pb, po, none⟩, pn, pc, by rw [HE.out]; rfl, ⟨HS.out, HD.out⟩, fun _ => ⟨HGL.out, by rw [HW.out]; exact HPN.out, by rw [HW.out]; exact HP8.out⟩⟩, Below.trans hL hb4⟩ rfl
        · have hne : (e2 != 0) = true := by simpa using he2
          have HE := Lib.hid (show hdE xs = e2 by rw [HPRE.out, if_neg he2])
          go_wp2_with (first | (with_reducible refine wpList_build0 (headC zeroH) build0_head rfl rfl ?_) | ((refine wpList_store_headB rfl (.tmp 2) (.tmp 37) rfl w.heap.size rfl zeroH rfl zeroH HR.out rfl rfl rfl rfl ?_); intro w8 HG hb4 hz4 ho4; refine Hid.out ?_))
          refine Lib.hid ?_
          replace HG := Lib.hid HG
          go_wp2_with fail
          exact ret_hs Tryz.results8 rfl rfl rfl HG.out rfl rfl (GivesHs.no HE.out he2 (Below.trans hL hb4)) rfl
      · have b2 : (h.ln != (n : Int) - 40) = true := by simpa using hln
        have HE := Lib.hid (show hdE xs = 5 by unfold hdE; rw [if_neg hpE, if_pos hE0, ← HGL.out, HLN.out, if_neg hln])
        go_wp2_with (first | (with_reducible refine wpList_build0 (headC zeroH) build0_head rfl rfl ?_) | ((refine wpList_store_headB rfl (.tmp 2) (.tmp 27) rfl w.heap.size rfl zeroH rfl zeroH HR.out rfl rfl rfl rfl ?_); intro w8 HG hb4 hz4 ho4; refine Hid.out ?_))
        refine Lib.hid ?_
        replace HG := Lib.hid HG
        go_wp2_with fail
        exact ret_hs Tryz.results8 rfl rfl rfl HG.out rfl rfl (GivesHs.no HE.out (by omega) (Below.trans hL hb4)) rfl
    · have hne : (er != 0) = true := by simpa using he
      have HE := Lib.hid (show hdE xs = er by unfold hdE; rw [if_neg hpE, ← HER.out, if_neg he])
      go_wp2_with (first | (with_reducible refine wpList_build0 (headC zeroH) build0_head rfl rfl ?_) | ((refine wpList_store_headB rfl (.tmp 2) (.tmp 19) rfl w.heap.size rfl zeroH rfl zeroH HR.out rfl rfl rfl rfl ?_); intro w8 HG hb4 hz4 ho4; refine Hid.out ?_))
      refine Lib.hid ?_
      replace HG := Lib.hid HG
      go_wp2_with fail
      exact ret_hs Tryz.results8 rfl rfl rfl HG.out rfl rfl (GivesHs.no HE.out he (Below.trans hL hb4)) rfl
end Go.Proofs.YtjafjapnmffohaaGreatDoor
