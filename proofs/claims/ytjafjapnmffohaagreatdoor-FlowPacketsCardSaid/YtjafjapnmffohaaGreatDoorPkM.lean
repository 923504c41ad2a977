/- What the program's own parts of Parse of packets tell: the bytes of a header, a blank upper part, reading it, a packet that holds it; the page's words that they need. Conditions: addresses are 16 bytes; at most 2^47 bytes. -/
import Derived.Test.YtjafjapnmffohaaGreatDoorPkL
import Derived.Test.YtjafjapnmffohaaGreatDoorPkW
import Derived.Test.YtjafjapnmffohaaGreatDoorJSrB
import Derived.Test.YtjafjapnmffohaaGreatDoorSlc
import Derived.Test.YtjafjapnmffohaaGreatDoorJTl
import Derived.Test.YtjafjapnmffohaaGreatDoorJWk
set_option maxRecDepth 100000
namespace Go.Proofs.YtjafjapnmffohaaGreatDoor
open Go.RowKit
set_option linter.unusedVariables false

/-- the error of the headers alone -/
def hdE (xs : List Int) : Int :=
  if 1500 < xs.length then 4 else if getE xs = 0 then
    (if (getL xs).ln = (xs.length : Int) - 40 then (if (pkW xs).2 = 0 then (if latB (pkW xs).1 = true then 7 else 0) else (pkW xs).2) else 5)
  else getE xs
theorem hdE_pre {xs : List Int} (h : hdE xs ≠ 0) : preE xs = hdE xs := by
  unfold hdE preE at *
  by_cases h1 : 1500 < xs.length
  · rw [if_pos h1, if_pos h1]
  rw [if_neg h1] at h ⊢
  rw [if_neg h1]
  by_cases h2 : getE xs = 0
  · rw [if_pos h2] at h ⊢
    rw [if_pos h2]
    by_cases h3 : (getL xs).ln = (xs.length : Int) - 40
    · rw [if_pos h3] at h ⊢
      rw [if_pos h3]
      by_cases h4 : (pkW xs).2 = 0
      · rw [if_pos h4] at h ⊢
        rw [if_pos h4]
        by_cases h5 : latB (pkW xs).1 = true
        · rw [if_pos h5, rtErr_lat h5]
        · rw [if_neg h5] at h
          omega
      · rw [if_neg h4, if_neg h4]
    · rw [if_neg h3, if_neg h3]
  · rw [if_neg h2, if_neg h2]
/-- the routing header's error, where it is the first one and alone -/
def rE (zs d : List Int) : Int := if errR zs = 0 then (if segR (saysR zs).sg (saysR zs).le = d then 0 else 5) else errR zs
theorem hdE_zero {xs : List Int} (h : hdE xs = 0) : xs.length ≤ 1500 ∧ getE xs = 0 ∧ 40 ≤ xs.length ∧ (getL xs).ln = (xs.length : Int) - 40 ∧ (pkW xs).2 = 0 ∧ latB (pkW xs).1 = false ∧ preE xs = rtErr xs (pkW xs).1 (getL xs).d := by
  unfold hdE at h
  by_cases h1 : 1500 < xs.length
  · rw [if_pos h1] at h; omega
  rw [if_neg h1] at h
  by_cases h2 : getE xs = 0
  · rw [if_pos h2] at h
    by_cases h3 : (getL xs).ln = (xs.length : Int) - 40
    · rw [if_pos h3] at h
      by_cases h4 : (pkW xs).2 = 0
      · rw [if_pos h4] at h
        have h5 : latB (pkW xs).1 = false := by
          by_cases h5 : latB (pkW xs).1 = true
          · rw [if_pos h5] at h; omega
          · simpa using h5
        have h40 : 40 ≤ xs.length := by
          rcases getE_cases xs with ⟨g1, e1, e2⟩ | ⟨g1, g2, e1, e2⟩ | ⟨g1, g2, e1, e2⟩
          · omega
          · exact g1
          · omega
        refine ⟨by omega, h2, h40, h3, h4, h5, ?_⟩
        unfold preE
        rw [if_neg h1, if_pos h2, if_pos h3, if_pos h4]
      · rw [if_neg h4] at h; exact absurd h h4
    · rw [if_neg h3] at h; omega
  · rw [if_neg h2] at h; exact absurd h h2
theorem rtErr_no {xs : List Int} {ps : List Pt} {d : List Int} (h : latB ps = false) (hi : rtIs ps = false) : rtErr xs ps d = 0 := by
  unfold rtErr
  rw [h, hi]
  rfl
theorem rtErr_yes {xs : List Int} {ps : List Pt} {d : List Int} (h : latB ps = false) (hi : rtIs ps = true) : rtErr xs ps d = rE (xs.drop 40) d := by
  unfold rtErr rE
  rw [h, hi]
  rfl

theorem getD_take0 {ys : List Int} {k i : Nat} (h : i < k) : (ys.take k).getD i 0 = ys.getD i 0 := by simp [List.getD, h]
/-- a routing header is read of its own bytes as of all that follow -/
theorem srh_take {ys : List Int} (h : wideR ys ≤ ys.length) : errR (ys.take (wideR ys)) = errR ys ∧ (errR ys = 0 → saysR (ys.take (wideR ys)) = saysR ys) := by
  obtain ⟨k, hk⟩ : ∃ k, k = wideR ys := ⟨_, rfl⟩
  have hk8 : 8 ≤ k := by rw [hk]; unfold wideR; omega
  rw [← hk] at h ⊢
  have hl : (ys.take k).length = k := by rw [List.length_take]; omega
  have hw : wideR (ys.take k) = k := by rw [hk]; unfold wideR; rw [getD_take0 (by unfold wideR at hk; omega)]
  have hm : manyR (ys.take k) = manyR ys := by unfold manyR; rw [getD_take0 (by omega)]
  have hf : fromR (ys.take k) = fromR ys := by unfold fromR; rw [hm]
  have ha : aheadR (ys.take k) = aheadR ys := by
    unfold aheadR
    rw [hl, hw, hm, hf, getD_take0 (show 2 < k by omega), getD_take0 (show 3 < k by omega), ← hk]
    rw [if_neg (show ¬ k < 8 by omega), if_neg (show ¬ k < k by omega), if_neg (show ¬ ys.length < 8 by omega), if_neg (show ¬ ys.length < k by omega)]
  have hp : partsR (ys.take k) = partsR ys := by
    unfold partsR
    rw [hw, hf, ← hk, List.take_take, Nat.min_self]
  have he : errR (ys.take k) = errR ys := by unfold errR; rw [ha, hp]
  refine ⟨he, fun h0 => ?_⟩
  have h1 := aheadR_zero (errR_zero h0).1
  unfold saysR
  have hn : num2 (ys.take k) 6 = num2 ys 6 := by unfold num2; rw [getD_take0 (by omega), getD_take0 (by omega)]
  have hch : chunksR (manyR ys) ((ys.take k).drop 8) = chunksR (manyR ys) (ys.drop 8) := by
    have hfk : 8 + 16 * manyR ys ≤ k := by rw [hk]; exact h1.2.2.2.2.1
    rw [← chunksR_take (manyR ys) ((ys.take k).drop 8), ← chunksR_take (manyR ys) (ys.drop 8), List.drop_take, List.take_take, Nat.min_eq_left (by omega)]
  rw [getD_take0 (by omega), getD_take0 (by omega), getD_take0 (by omega), hn, hm, hch, hp]
theorem rE_take {ys d : List Int} (h : wideR ys ≤ ys.length) : rE (ys.take (wideR ys)) d = rE ys d := by
  obtain ⟨h1, h2⟩ := srh_take h
  unfold rE
  rw [h1]
  by_cases h0 : errR ys = 0
  · rw [if_pos h0, if_pos h0, h2 h0]
  · rw [if_neg h0, if_neg h0]
/-- the last header has all that is left -/
theorem walkR_left (xs : List Int) : ∀ (ps : List Pt) (f : Nat) (nx : Int) (a : Nat), a ≤ xs.length → walkR xs f nx a = (ps, 0) → (lastP ps).l = (xs.length : Int) - (lastP ps).a
  | [], f, nx, a, ha, h => absurd (by rw [h]) (walkR_some xs f nx a (by rw [h]))
  | p :: rest, f, nx, a, ha, h => by
    rcases walkR_inv xs f nx a p rest h with ⟨hr, hp, -⟩ | ⟨f', hk, hp, h2, hz, hr, hw⟩
    · subst hr hp
      rfl
    · rw [lastP_cons p hr]
      exact walkR_left xs rest f' _ _ hz hw
theorem walkR_first {xs : List Int} {ps : List Pt} {nx : Int} (hw : walkR xs 8 nx 40 = (ps, 0)) (hi : rtIs ps = true) : wideR (xs.drop 40) ≤ (xs.drop 40).length ∧ ps.getD 0 zeroP = ⟨43, 40, (wideR (xs.drop 40) : Nat)⟩ := by
  cases ps with
  | nil => exact absurd hi (by unfold rtIs; decide)
  | cons p rest =>
    have hk : p.k = 43 := by
      unfold rtIs at hi
      simpa using hi
    rcases walkR_inv xs 8 nx 40 p rest hw with ⟨hr, hp, h0, h43, h60⟩ | ⟨f', hk2, hp, h2, hz, hr, hw2⟩
    · exact absurd (by rw [hp] at hk; exact hk) h43
    · have e : hsz xs 40 = wideR (xs.drop 40) := by
        unfold hsz wideR
        simp [List.getD, List.getElem?_drop]
      have hkx : nx = 43 := by rw [hp] at hk; exact hk
      rw [e] at hz hp
      subst hkx
      exact ⟨by rw [List.length_drop]; omega, hp⟩

/-- a whole row is stored; what lies in other blocks stays -/
theorem wpList_store_vO {P : Program} {ops : Array Oper} {rest : List Oper} {o : Oper} {a : Act} {w : World} {Q : Exit → Act → World → Prop} (hgd : o.guard = none) (t : TypeId) (x y : Operand) (ho : o.op = .store t x y) (g : Nat) (hx : a.eval x = .pointer (some ⟨g, 0, none⟩)) (vs : List Value) (hy : a.eval y = .agg vs.toArray)
    (tb : TypeId) (old : List Value) (hb : BlkV w tb g old) (hl : old.length = vs.length) (hsz : (P.info? t).map (·.size) = some vs.length) (hone : vs.toArray.all (·.oneCell') = true)
    (hk : ∀ w', BlkV w' tb g vs → Below g w w' → w'.heap.size = w.heap.size → (∀ k : Nat, k ≠ g → w'.heap[k]? = w.heap[k]?) → wpList P ops Q rest (a.put o.dst undef) w') : wpList P ops Q (o :: rest) a w :=
  wpList_store_row hgd t x y ho g _ hx hy tb _ hb (by rw [hsz]; simp) (by simp [hl]) hone (hk _ (BlkV.setRow hb _) (low_setRow _ _ _ (Nat.le_refl _)) (by simp) (fun k hk => by simp [World.setRow, Array.getElem?_modify, Ne.symm hk]))

theorem wpList_build0 {ops : Array Oper} {rest : List Oper} {o : Oper} {a : Act} {w : World} {Q : Exit → Act → World → Prop} {T : TypeId} (vs : List Value) (hz : ∀ w, (Instr.build T #[]).run Tryz.prog w = .ok (.agg vs.toArray) w) (hgd : o.guard = none) (ho : o.op = .build T #[])
    (hk : wpList Tryz.prog ops Q rest (a.put o.dst (.agg vs.toArray)) w) : wpList Tryz.prog ops Q (o :: rest) a w :=
  wpList_plain hgd fun K hK => by
    unfold Oper.wp execOp
    simp only [ho, List.map_toArray, List.map_nil, Sem.run_bind, hz, Result.andThen_ok, Sem.run_pure]
    exact hK _ _ hk
theorem build0_seg (w : World) : (Instr.build 92 #[]).run Tryz.prog w = .ok (.agg (segC zeroS).toArray) w := by kernel_rfl
theorem build0_msg (w : World) : (Instr.build 94 #[]).run Tryz.prog w = .ok (.agg (msgC zeroM).toArray) w := by kernel_rfl
theorem build0_pk (w : World) : (Instr.build 38 #[]).run Tryz.prog w = .ok (.agg (pqC zeroQ).toArray) w := by kernel_rfl
theorem build0_head (w : World) : (Instr.build 26 #[]).run Tryz.prog w = .ok (.agg (headC zeroH).toArray) w := by kernel_rfl

set_option maxRecDepth 100000 in
set_option maxHeartbeats 3200000 in
theorem bytesOf_any (b o n c a l : Nat) (p : Pt) (w : World) (hp : p.a = a) (hl : p.l = l) (hal : a + l ≤ n) (hc : n ≤ c) (hc2 : c ≤ 9223372036854775807) :
    Calls Tryz.prog 10 #[.slice (some ⟨b, o, none⟩) n c, ptV p] w fun e w' => (∃ A', e = .returned (.slice A' l (c - a)) ∧ (0 < l → A' = some ⟨b, o + a, none⟩)) ∧ Below w.heap.size w w' := by
  unfold ptV
  have hwr : IntKind.i64.wrap (p.a + p.l) = p.a + p.l := by rw [IntKind.wrap_i64]; omega
  obtain ⟨A', hs, hA⟩ := slc_both b o n c a (a + l) p.a (p.a + p.l) hc hp (by omega) (by omega) hal
  rw [Nat.add_sub_cancel_left] at hs hA
  have HS := Lib.hid hs
  have HA := Lib.hid hA
  clear hs hA hp hl hal
  go_enter Tryz.func10, Tryz.ntmps10
  go_wp2_with ((with_reducible refine wpList_box_v rfl 55 (.tmp 1) rfl (ptC p) rfl ?_); intro w1 HB hL hz1; refine Hid.out ?_)
  refine Lib.hid ?_
  have c1 : w1.cell? ⟨w.heap.size, 1, none⟩ = some (.int .i64 p.a) := HB.cell 1
  have c2 : w1.cell? ⟨w.heap.size, 2, none⟩ = some (.int .i64 p.l) := HB.cell 2
  clear HB hz1
  go_wp2_with (refine slc_wp rfl 22 (.tmp 5) (some (.tmp 7)) (some (.tmp 12)) none rfl _ (HS.out w1) ?_; refine Hid.out ?_)
  refine Lib.hid ?_
  go_wp2_with fail
  go_ret
  exact ⟨⟨A', rfl, HA.out⟩, hL⟩

set_option maxRecDepth 100000 in
set_option maxHeartbeats 1600000 in
theorem sclone_any (A : Option Addr) (n c : Nat) (xs : List Int) (w : World) (hn : n ≤ 140737488355328) (hb : Bs w w.heap.size A n xs) : Calls Tryz.prog 13 #[.slice A n c] w (GivesNB w xs) := by
  obtain ⟨i0, hi, hz0, hz1, hz2⟩ := info_parts info5
  cases A with
  | none =>
    obtain rfl : n = 0 := by
      rcases Nat.eq_zero_or_pos n with h | h
      · exact h
      · obtain ⟨_, _, e, _⟩ := hb.mem h; cases e
    obtain rfl : xs = [] := List.eq_nil_of_length_eq_zero hb.len
    have hnil : (binOp .eql 22 (.slice none 0 c) (.slice none 0 0)).run Tryz.prog w = .ok (.bool true) w := Lib.run_eql_slice_nil w 22 5 none 0 c 0 0 Tryz.underlying22
    clear hb hi hz0 hz1 hz2
    go_enter Tryz.func13, Tryz.ntmps13
    go_wp2_with fail
    go_ret
    exact GivesNB.of (ys := []) (zs := []) rfl (OwnB.none_ _ _ _) (Below.refl _ _)
  | some ad =>
    have hl := Low.alloc w (.cells #[] 5)
    have hO := OwnB.fresh (base := w.heap.size) w 5 (Nat.le_refl _)
    have hb1 := hb.below hl
    have HLT := Lib.hid hO.lt
    have HL := Lib.hid hl
    have hnil : (binOp .eql 22 (.slice (some ad) n c) (.slice none 0 0)).run Tryz.prog w = .ok (.bool false) w := Lib.run_eql_slice_nil w 22 5 (some ad) n c 0 0 Tryz.underlying22
    clear hb hl
    go_enter Tryz.func13, Tryz.ntmps13
    go_wp2_with (at_builtin; refine wpList_append_bs rfl _ _ 22 rfl w.heap.size 5 i0 Tryz.underlying22 hi hz0 hz1 hz2 _ 0 0 [] rfl hO _ n c w.heap.size xs rfl hb1 (by omega) (by simp) ?_; intro A2 c2 w1 hown hgr hob; refine Hid.out ?_)
    refine Lib.hid ?_
    have HOW := Lib.hid hown
    have HB2 := Lib.hid (HL.out.grown hgr (by simp) fun x e => (HLT.out x e).1)
    clear hown hgr hob hO hb1
    go_wp2_with fail
    go_ret
    have h := HOW.out
    rw [Nat.zero_add, List.nil_append] at h
    exact GivesNB.of rfl h HB2.out

/-- a blank upper part of a kind -/
theorem blank6_any (w : World) : Calls Tryz.prog 12 #[.int .i64 6] w fun e w' =>
    e = .returned (.tuple #[.iface 91 (.pointer (some ⟨w.heap.size, 0, none⟩)), .bool true]) ∧ BlkV w' 92 w.heap.size (segC zeroS) ∧ Below w.heap.size w w' := by
  go_enter Tryz.func12, Tryz.ntmps12
  go_wp2_with (first
    | (with_reducible refine wpList_build0 (segC zeroS) build0_seg rfl rfl ?_)
    | ((with_reducible refine wpList_box_v rfl 92 (.tmp 7) rfl (segC zeroS) rfl ?_); intro w1 HB hL hz1; refine Hid.out ?_))
  refine Lib.hid ?_
  go_wp2_with fail
  go_ret2
  exact ⟨rfl, HB, hL⟩
theorem blank58_any (w : World) : Calls Tryz.prog 12 #[.int .i64 58] w fun e w' =>
    e = .returned (.tuple #[.iface 93 (.pointer (some ⟨w.heap.size, 0, none⟩)), .bool true]) ∧ BlkV w' 94 w.heap.size (msgC zeroM) ∧ Below w.heap.size w w' := by
  go_enter Tryz.func12, Tryz.ntmps12
  go_wp2_with (first
    | (with_reducible refine wpList_build0 (msgC zeroM) build0_msg rfl rfl ?_)
    | ((with_reducible refine wpList_box_v rfl 94 (.tmp 12) rfl (msgC zeroM) rfl ?_); intro w1 HB hL hz1; refine Hid.out ?_))
  refine Lib.hid ?_
  go_wp2_with fail
  go_ret2
  exact ⟨rfl, HB, hL⟩
theorem blank_no (k : Int) (w : World) (h6 : k ≠ 6) (h58 : k ≠ 58) : Calls Tryz.prog 12 #[.int .i64 k] w fun e w' => e = .returned (.tuple #[.nilIface, .bool false]) ∧ Below w.heap.size w w' := by
  have b6 : (k == 6) = false := by simpa using h6
  have b58 : (k == 58) = false := by simpa using h58
  go_enter Tryz.func12, Tryz.ntmps12
  go_wp2_with fail
  go_ret2
  exact ⟨rfl, Below.refl _ _⟩

/-- an upper part is read -/
def ReadsS (w : World) (g : Nat) (s d xs : List Int) (e : Ending) (w' : World) : Prop :=
  e = .returned (.int .i64 (upE s d 6 xs)) ∧ Below g w w' ∧ w.heap.size ≤ w'.heap.size ∧ (upE s d 6 xs = 0 → ∃ t : Sg, BlkV w' 92 g (segC t) ∧ t.v = (parseS xs).1 ∧ t.ok w' w'.heap.size ∧ SFrom w.heap.size t)
def ReadsM (w : World) (g : Nat) (s d xs : List Int) (e : Ending) (w' : World) : Prop :=
  e = .returned (.int .i64 (upE s d 58 xs)) ∧ Below g w w' ∧ w.heap.size ≤ w'.heap.size ∧ (upE s d 58 xs = 0 → ∃ t : Mg, BlkV w' 94 g (msgC t) ∧ t.v = parseM s d xs ∧ t.ok w' w'.heap.size ∧ MFrom w.heap.size t)
theorem upE6 (s d xs : List Int) : upE s d 6 xs = if (parseS xs).2 = 0 then (if fineB s d 6 xs = true then 0 else 6) else (parseS xs).2 := by unfold upE; rw [if_pos rfl]
theorem upE58 (s d xs : List Int) : upE s d 58 xs = parseE s d xs := by unfold upE; rw [if_neg (by omega), if_pos rfl]

set_option maxRecDepth 100000 in
set_option maxHeartbeats 1600000 in
theorem segread_any (g : Nat) (s d : List Int) (A : Option Addr) (n c : Nat) (xs : List Int) (w : World) (hs : s.length = 16) (hd : d.length = 16) (vs : AllB s) (vd : AllB d) (hn : n ≤ 140737488351232) (hc : n ≤ c) (hc2 : c ≤ 9223372036854775807) (hb : Bs w w.heap.size A n xs) (hg : BlkV w 92 g (segC zeroS)) :
    Calls Tryz.prog 108 #[.pointer (some ⟨g, 0, none⟩), addrV s, addrV d, .slice A n c] w (ReadsS w g s d xs) := by
  unfold addrV
  have HS := Lib.hid hs
  have HD := Lib.hid hd
  have hL := low2 w s d 24 24
  have HB0 := Lib.hid (box_first w s d 24 24)
  have HB1 := Lib.hid (box_second w s d 24 24)
  have hgl := hg.lt
  have HG := Lib.hid (hg.below hL hg.lt)
  have HB := Lib.hid (hb.below' hL hL.size)
  have HUE := Lib.hid (upE6 s d xs)
  clear hs hd hb hg
  go_enter Tryz.func108, Tryz.ntmps108
  go_wp2_with fail
  refine (tcparse_anyF A n c xs _ hn hc hc2 HB.out).mono ?_
  rintro e w3 ⟨t, rfl, htv, htk, hl, htf⟩
  have hl3 : Low _ w3 := hl
  replace HB0 := Lib.hid (HB0.out.below hl3 HB0.out.lt)
  replace HB1 := Lib.hid (HB1.out.below hl3 HB1.out.lt)
  replace HG := Lib.hid (HG.out.below hl3 HG.out.lt)
  replace HB := Lib.hid (HB.out.below' hl3 hl3.size)
  have HTF := Lib.hid (show SFrom w.heap.size t from ⟨htf.1.lessS hL.size, fun h => by
    obtain ⟨b, p, e, hb⟩ := htf.2 h
    exact ⟨b, p, e, Nat.le_trans hL.size hb⟩⟩)
  replace hL := Low.trans hL hl3
  have HTV := Lib.hid htv
  have HTK := Lib.hid htk
  obtain ⟨e4, he4⟩ : ∃ e4, e4 = (parseS xs).2 := ⟨_, rfl⟩
  rw [← he4]
  have HE4 := Lib.hid he4
  clear hl hl3 htv htk htf he4
  unfold segV
  go_wp2_with ((with_reducible refine wpList_alloc_seg rfl rfl ?_); intro w4 HZ hl4 hz4; refine Hid.out ?_)
  refine Lib.hid ?_
  have hw3 : w.heap.size ≤ w3.heap.size := hL.size
  have hb0l := HB0.out.lt
  have hb1l := HB1.out.lt
  go_wp2_with ((refine wpList_store_seg rfl (.tmp 9) (.tmp 14) rfl w3.heap.size rfl t rfl zeroS HZ ?_); intro w5 HT hb5 hz5; refine Hid.out ?_)
  refine Lib.hid ?_
  have hl5 : Low w3 w5 := Below.trans hl4 hb5
  replace HB0 := Lib.hid (HB0.out.below hl5 HB0.out.lt)
  replace HB1 := Lib.hid (HB1.out.below hl5 HB1.out.lt)
  replace HG := Lib.hid (HG.out.below hl5 HG.out.lt)
  replace HB := Lib.hid (HB.out.below' hl5 hl5.size)
  replace HTK := Lib.hid (HTK.out.low hl5)
  replace hL := Low.trans hL hl5
  replace HT := Lib.hid HT
  obtain ⟨gT, hgT⟩ : ∃ g, g = w3.heap.size := ⟨_, rfl⟩
  rw [← hgT] at HT hw3 hb0l hb1l ⊢
  clear HZ hl4 hz4 hb5 hz5 hl5 hgT
  by_cases he : e4 = 0
  · subst he
    go_wp2_with (first
      | (with_reducible refine wpList_load_addr rfl (.tmp 5) rfl w.heap.size rfl _ s HB0.out HS.out ?_)
      | (with_reducible refine wpList_load_addr rfl (.tmp 6) rfl (w.heap.size + 1) rfl _ d HB1.out HD.out ?_))
    refine (tcfine_any s d A n c xs w5 HS.out HD.out vs vd (by omega) HB.out).mono ?_
    rintro e w6 ⟨rfl, hl⟩
    have hl6 : Low w5 w6 := hl
    replace HG := Lib.hid (HG.out.below hl6 HG.out.lt)
    replace HT := Lib.hid (HT.out.below hl6 HT.out.lt)
    replace HTK := Lib.hid (HTK.out.low hl6)
    replace hL := Low.trans hL hl6
    clear hl hl6 HB0 HB1 HB
    obtain ⟨fb, hfb⟩ : ∃ fb, fb = fineB s d 6 xs := ⟨_, rfl⟩
    rw [← hfb]
    have HFB := Lib.hid hfb
    clear hfb
    cases fb
    · have HE := Lib.hid (show upE s d 6 xs = 6 by rw [HUE.out, ← HE4.out, if_pos rfl, ← HFB.out]; rfl)
      go_wp2_with fail
      go_ret
      exact ⟨ret_i HE.out.symm, hL.mono (by omega), hL.size, fun h => absurd h (by rw [HE.out]; omega)⟩
    · have HE := Lib.hid (show upE s d 6 xs = 0 by rw [HUE.out, ← HE4.out, if_pos rfl, ← HFB.out]; rfl)
      go_wp2_with ((with_reducible refine wpList_load_seg rfl (.tmp 9) rfl gT rfl t HT.out ?_); refine Hid.out ?_)
      refine Lib.hid ?_
      go_wp2_with ((refine wpList_store_vO rfl 92 (.tmp 26) (.tmp 25) rfl g rfl (segC t) rfl _ (segC zeroS) HG.out rfl (by rw [sgm_size]; rfl) (segC_one t) ?_); intro w7 HG7 hb7 hz7 ho7; refine Hid.out ?_)
      refine Lib.hid ?_
      have HG8 := Lib.hid HG7
      have HTK7 : Hid (t.ok w7 w7.heap.size) := Lib.hid (by
        rw [hz7]
        exact HTK.out.upperK HTF.out fun p h1 h2 => World.cell?_of_block (ho7 _ (by omega)))
      have hB7 : Below g w w7 := (hL.mono (by omega)).trans hb7
      have hz : w.heap.size ≤ w7.heap.size := by have := hL.size; omega
      clear HG HG7 hb7 ho7 HT hz7
      go_wp2_with fail
      go_ret
      exact ⟨ret_i HE.out.symm, hB7, hz, fun _ => ⟨t, HG8.out, HTV.out, HTK7.out, HTF.out⟩⟩
  · have HE := Lib.hid (show upE s d 6 xs = e4 by rw [HUE.out, ← HE4.out, if_neg he])
    have hne : (e4 != 0) = true := by simpa using he
    have HNE := Lib.hid he
    clear he
    go_wp2_with fail
    go_ret
    exact ⟨ret_i HE.out.symm, hL.mono (by omega), hL.size, fun h => absurd h (by rw [HE.out]; exact HNE.out)⟩

set_option maxRecDepth 100000 in
set_option maxHeartbeats 1600000 in
theorem msgread_any (g : Nat) (s d : List Int) (A : Option Addr) (n c : Nat) (xs : List Int) (w : World) (hs : s.length = 16) (hd : d.length = 16) (vs : AllB s) (vd : AllB d) (hn : n ≤ 140737488351232) (hc : n ≤ c) (hc2 : c ≤ 9223372036854775807) (hb : Bs w w.heap.size A n xs) (hg : BlkV w 94 g (msgC zeroM)) :
    Calls Tryz.prog 136 #[.pointer (some ⟨g, 0, none⟩), addrV s, addrV d, .slice A n c] w (ReadsM w g s d xs) := by
  unfold addrV
  have HS := Lib.hid hs
  have HD := Lib.hid hd
  have hL := low2 w s d 24 24
  have HB0 := Lib.hid (box_first w s d 24 24)
  have HB1 := Lib.hid (box_second w s d 24 24)
  have hgl := hg.lt
  have HG := Lib.hid (hg.below hL hg.lt)
  have HB := Lib.hid (hb.below' hL hL.size)
  have HUE := Lib.hid (upE58 s d xs)
  clear hs hd hb hg
  go_enter Tryz.func136, Tryz.ntmps136
  go_wp2_with (first
    | (with_reducible refine wpList_load_addr rfl (.tmp 5) rfl w.heap.size rfl _ s HB0.out HS.out ?_)
    | (with_reducible refine wpList_load_addr rfl (.tmp 6) rfl (w.heap.size + 1) rfl _ d HB1.out HD.out ?_))
  refine (icparse_any s d A n c xs _ HS.out HD.out vs vd hn hc hc2 HB.out).mono ?_
  rintro e w3 ⟨t, rfl, htv, htk, hl, htf⟩
  have hl3 : Low _ w3 := hl
  replace HG := Lib.hid (HG.out.below hl3 HG.out.lt)
  have HTF := Lib.hid (show MFrom w.heap.size t from fun h => by
    obtain ⟨b, p, e, hb⟩ := htf h
    exact ⟨b, p, e, Nat.le_trans hL.size hb⟩)
  replace hL := Low.trans hL hl3
  have HTV := Lib.hid htv
  have HTK := Lib.hid htk
  rw [← HUE.out]
  obtain ⟨e4, he4⟩ : ∃ e4, e4 = upE s d 58 xs := ⟨_, rfl⟩
  rw [← he4]
  have HE := Lib.hid he4.symm
  clear hl hl3 htv htk htf he4 HB0 HB1 HB
  unfold msgV
  go_wp2_with ((with_reducible refine wpList_alloc_msg rfl rfl ?_); intro w4 HZ hl4 hz4; refine Hid.out ?_)
  refine Lib.hid ?_
  have hw3 : w.heap.size ≤ w3.heap.size := hL.size
  go_wp2_with ((refine wpList_store_msg rfl (.tmp 9) (.tmp 16) rfl w3.heap.size rfl t rfl zeroM HZ ?_); intro w5 HT hb5 hx5 hz5; refine Hid.out ?_)
  refine Lib.hid ?_
  have hl5 : Low w3 w5 := Below.trans hl4 hb5
  replace HG := Lib.hid (HG.out.below hl5 HG.out.lt)
  replace HTK := Lib.hid (HTK.out.low hl5)
  replace hL := Low.trans hL hl5
  replace HT := Lib.hid HT
  obtain ⟨gT, hgT⟩ : ∃ g, g = w3.heap.size := ⟨_, rfl⟩
  rw [← hgT] at HT hw3 ⊢
  clear HZ hl4 hz4 hb5 hx5 hz5 hl5 hgT
  by_cases he : e4 = 0
  · subst he
    go_wp2_with ((with_reducible refine wpList_load_msg rfl (.tmp 9) rfl gT rfl t HT.out ?_); refine Hid.out ?_)
    refine Lib.hid ?_
    go_wp2_with ((refine wpList_store_vO rfl 94 (.tmp 23) (.tmp 22) rfl g rfl (msgC t) rfl _ (msgC zeroM) HG.out rfl (by rw [mgm_size]; rfl) (msgC_one t) ?_); intro w7 HG7 hb7 hz7 ho7; refine Hid.out ?_)
    refine Lib.hid ?_
    have HG8 := Lib.hid HG7
    have HTK7 : Hid (t.ok w7 w7.heap.size) := Lib.hid (by
      rw [hz7]
      exact HTK.out.upperK HTF.out fun p h1 h2 => World.cell?_of_block (ho7 _ (by omega)))
    have hB7 : Below g w w7 := (hL.mono (by omega)).trans hb7
    have hz : w.heap.size ≤ w7.heap.size := by have := hL.size; omega
    clear HG HG7 hb7 ho7 HT hz7
    go_wp2_with fail
    go_ret
    exact ⟨ret_i HE.out.symm, hB7, hz, fun _ => ⟨t, HG8.out, HTV.out, HTK7.out, HTF.out⟩⟩
  · have hne : (e4 != 0) = true := by simpa using he
    have HNE := Lib.hid he
    clear he
    go_wp2_with fail
    go_ret
    exact ⟨ret_i HE.out.symm, hL.mono (by omega), hL.size, fun h => absurd h (by rw [HE.out]; exact HNE.out)⟩
end Go.Proofs.YtjafjapnmffohaaGreatDoor
