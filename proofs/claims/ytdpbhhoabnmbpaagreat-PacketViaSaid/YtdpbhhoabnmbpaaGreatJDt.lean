/- Texts joined.
  The small calls by which detour gives up and is caught: demand, must, reason, and what each deferred closure does. No condition.
  detour.must of a header, whole: the fixed header of bytes that are as many as it says, or the error with which it gives up. Condition: at most 2^47 bytes.
  Regions that draw, where a way may give up; how a call that defers is left. No program but the closures' contracts. No condition.
  detour.routed: the fixed header, the routing header behind it, and how long that is; or the error with which it gives up. detour.Header. Condition: at most 2^47 - 4096 bytes.
  detour.Header: the routing header of any bytes. Condition: at most 2^47 - 4096 bytes.
  The page's words on packets with a header: what is got of a header that was put, and laid anew. No program here.
  detour.packet: a packet of a fixed header and of lists of bytes behind it, with the Length that fits. Condition: the header can be, the lists are at most 65535 bytes together.
  detour.Remove: any packet without its routing header. Condition: at most 2^47 - 4096 bytes.
  detour.Advance: any packet on its way to the next segment. Condition: at most 2^47 - 4096 bytes.
  Addresses in a row of the call's own: one is stored anew; slices.Clone, slices.Reverse of addresses. Condition: at most 2^31 addresses.
  detour.segments: by which segments a packet goes. Condition: 1 to 9 others.
  detour.Insert: any packet by way of others. Condition: at most 2^47 - 4096 bytes, others and parts.
-/
import Derived.Test.YtdpbhhoabnmbpaaGreatVals
import Derived.Tactics2
import Derived.Defers
import Derived.Recover
import Derived.Laws.Pointers
import Derived.WalkLawsBesides
import Derived.Test.YtdpbhhoabnmbpaaGreatJSx
import Derived.Test.YtdpbhhoabnmbpaaGreatJSy
import Derived.Test.YtdpbhhoabnmbpaaGreatJReg
import Derived.Test.YtdpbhhoabnmbpaaGreatJSrB
import Derived.Test.YtdpbhhoabnmbpaaGreatLawSxG
import Derived.Test.YtdpbhhoabnmbpaaGreatJOct
import Derived.Test.YtdpbhhoabnmbpaaGreatJSrA
import Derived.Test.YtdpbhhoabnmbpaaGreatSlc
import Derived.Lib.SliceRun
set_option maxRecDepth 100000
namespace Go.Proofs.YtdpbhhoabnmbpaaGreat
open Go.RowKit
set_option linter.unusedVariables false

/-- the error that is thrown, and a call that gives up with it -/
def errV (er : Int) : Value := .iface 39 (.int .i64 er)
def Thrown (er : Int) : Ending := .panicked [{ v := errV er, recovered := false }]

theorem results_nilD {P : Program} {fn : Func} (h : fn.results = #[]) (tmps : Array Value) (w : World) : (results fn tmps).run P w = .ok (.tuple #[]) w := by
  simp [results, h]
theorem demand_yes (er : Int) (w : World) : Calls Tryz.prog 42 #[.bool true, .int .i64 er] w fun e w' => e = .returned (.tuple #[]) ∧ w' = w := by
  go_enter Tryz.func42, Tryz.ntmps42
  go_wp2
  exact bodyPost_end (results_nilD Tryz.results42 _ _) rfl ⟨rfl, rfl⟩
theorem demand_no (er : Int) (w : World) : Calls Tryz.prog 42 #[.bool false, .int .i64 er] w fun e w' => e = Thrown er ∧ w' = w := by
  go_enter Tryz.func42, Tryz.ntmps42
  go_wp2
  exact ⟨rfl, rfl, rfl⟩
theorem mustb_yes (A : Option Addr) (n c : Nat) (w : World) : Calls Tryz.prog 43 #[.slice A n c, .int .i64 0] w fun e w' => e = .returned (.slice A n c) ∧ w' = w := by
  go_enter Tryz.func43, Tryz.ntmps43
  go_wp2_with fail
  refine (demand_yes 0 w).mono ?_
  rintro e w' ⟨rfl, rfl⟩
  go_wp2_with fail
  go_ret
  exact ⟨rfl, rfl⟩
theorem mustb_no (A : Option Addr) (n c : Nat) (er : Int) (he : er ≠ 0) (w : World) : Calls Tryz.prog 43 #[.slice A n c, .int .i64 er] w fun e w' => e = Thrown er ∧ w' = w := by
  go_enter Tryz.func43, Tryz.ntmps43
  have hd : (er == 0) = false := by simpa using he
  go_wp2_with fail
  refine (demand_no er w).mono ?_
  rintro e w' ⟨rfl, rfl⟩
  unfold Thrown
  go_wp2_with fail
  exact ⟨rfl, rfl, rfl⟩
set_option maxRecDepth 100000 in
theorem reason_err (er : Int) (w : World) : Calls Tryz.prog 40 #[errV er] w fun e w' => e = .returned (.int .i64 er) ∧ w' = w := by
  unfold errV
  have hta : ∀ u : World, (Instr.typeAssert (.iface 39 (.int .i64 er)) 20 39 true).run Tryz.prog u = .ok (.tuple #[.int .i64 er, .bool true]) u := fun _ => by kernel_rfl
  go_enter Tryz.func40, Tryz.ntmps40
  go_wp2
  go_ret
  exact ⟨rfl, rfl⟩
set_option maxRecDepth 100000 in
theorem reason_nil (w : World) : Calls Tryz.prog 40 #[.nilIface] w fun e w' => e = .returned (.int .i64 0) ∧ w' = w := by
  have hta : ∀ u : World, (Instr.typeAssert .nilIface 20 39 true).run Tryz.prog u = .ok (.tuple #[.int .i64 0, .bool false]) u := fun _ => by kernel_rfl
  go_enter Tryz.func40, Tryz.ntmps40
  go_wp2
  go_ret
  exact ⟨rfl, rfl⟩
/-- what the deferred call of Insert does: where the call gives up, the error is told; else 0 -/
theorem icatch_panic (p : Addr) (x : Value) (er : Int) (older : List PanicEntry) (w : World) (hc : w.cell? p = some x) (hz : w.frozen? p = false) :
    CallsD Tryz.prog 39 #[.pointer (some p)] (.panicking ({ v := errV er, recovered := false } :: older)) w fun e u' w' =>
      e = .returned (.tuple #[]) ∧ u' = .panicking ({ v := errV er, recovered := true } :: older) ∧ w' = w.setCell p (.int .i64 er) := by
  refine callsD_of_wpS Tryz.func39 rfl fun c₀ cs hu => ?_
  apply wpS_region
  simp [wpOpsS, go_sem, recoverD, hu, Tryz.ntmps39]
  refine (reason_err er w).mono ?_
  rintro e w' ⟨rfl, rfl⟩
  simp [hc, hz, bodyPostS, results, Tryz.results39, go_sem]
theorem icatch_idle (p : Addr) (x : Value) (w : World) (hc : w.cell? p = some x) (hz : w.frozen? p = false) :
    CallsD Tryz.prog 39 #[.pointer (some p)] .returning w fun e u' w' =>
      e = .returned (.tuple #[]) ∧ u' = .returning ∧ w' = w.setCell p (.int .i64 0) := by
  refine callsD_of_wpS Tryz.func39 rfl fun c₀ cs hu => ?_
  apply wpS_region
  simp [wpOpsS, go_sem, recoverD, hu, Tryz.ntmps39]
  refine (reason_nil w).mono ?_
  rintro e w' ⟨rfl, rfl⟩
  cases c₀
  simp_all [bodyPostS, results, Tryz.results39, go_sem]
end Go.Proofs.YtdpbhhoabnmbpaaGreat

namespace Go.Proofs.YtdpbhhoabnmbpaaGreat
open Go.RowKit
set_option linter.unusedVariables false

theorem results_cell1 {P : Program} {fn : Func} {p : Tmp} {ty : TypeId} (h : fn.results = #[.cell p ty]) (tmps : Array Value) (w : World) (g : Nat) (t : TypeId) (cs : Array Value) (fr : Nat × Nat) (d : TypeDesc)
    (hp : tmps.getD p undef = .pointer (some ⟨g, 0, none⟩)) (hg : w.heap[g]? = some (.cells cs t fr))
    (hu : P.underlying ty = some d) (hd : (match d with | .struct _ | .array _ _ => true | _ => false) = true) (hi : (P.info? ty).map (·.size) = some cs.size) :
    (results fn tmps).run P w = .ok (.agg cs) w := by
  have hp' : tmps[p]?.getD undef = .pointer (some ⟨g, 0, none⟩) := by simpa using hp
  simp [results, h, hp', asAddr, run_loadVar_row w g t ty cs fr d hg hu hd hi]
theorem ret_head1 {w' : World} {fn : Func} {p : Tmp} {tmps : Array Value} {df : List Deferred} {g : Nat} {h : Hd} {R : Ending → World → Prop} (hr : fn.results = #[.cell p 26]) (hp : tmps.getD p undef = .pointer (some ⟨g, 0, none⟩))
    (hb : BlkH w' g h) (hs : h.s.length = 16) (hd : h.d.length = 16) (hR : R (.returned (headV h)) w') (hdf : df = []) : bodyPost Tryz.prog fn R .ret ⟨tmps, df⟩ w' := by
  subst hdf
  exact bodyPost_ret (v := .agg (headC h).toArray) (results_cell1 hr _ _ g _ _ _ _ hp hb Tryz.underlying26 rfl (by rw [head_size]; simp [headC_length hs hd])) rfl hR

/-- the header that whole tells, or why it gives up -/
def wholeE (xs : List Int) : Int := if getE xs = 0 then (if (getL xs).ln = (xs.length : Int) - 40 then 0 else 5) else getE xs
theorem wholeE_zero {xs : List Int} (h : wholeE xs = 0) : getE xs = 0 ∧ 40 ≤ xs.length ∧ xs.getD 0 0 / 16 = 6 ∧ getH xs = getL xs ∧ (getL xs).ln = (xs.length : Int) - 40 := by
  unfold wholeE at h
  rcases getE_cases xs with ⟨h1, h2, h3⟩ | ⟨h1, h2, h3, h4⟩ | ⟨h1, h2, h3, h4⟩
  · rw [h2] at h; simp at h
  · rw [h3, if_pos rfl] at h
    refine ⟨h3, h1, h2, h4, ?_⟩
    by_cases h5 : (getL xs).ln = (xs.length : Int) - 40
    · exact h5
    · rw [if_neg h5] at h; omega
  · rw [h3] at h; simp at h

section
variable (h : Hd) (w : World) (hk : h.ok)
include hk
set_option maxRecDepth 100000 in
theorem musth_yes : Calls Tryz.prog 70 #[headV h, .int .i64 0] w fun e w' => e = .returned (headV h) ∧ Low w w' := by
  have HS := Lib.hid hk.s
  have HD := Lib.hid hk.d
  unfold headV
  go_enter Tryz.func70, Tryz.ntmps70
  go_wp2_with ((with_reducible refine wpList_box_v rfl 26 (.tmp 0) rfl (headC h) rfl ?_); intro w1 HB hL hz1; refine Hid.out ?_)
  refine Lib.hid ?_
  replace HB := Lib.hid HB
  clear hz1
  go_wp2_with ((with_reducible refine wpList_alloc_v rfl 26 rfl (headC zeroH) (by kernel_rfl) ?_); intro w2 HZ hl2 hz2; refine Hid.out ?_)
  refine Lib.hid ?_
  replace HZ := Lib.hid HZ
  replace HB := Lib.hid (HB.out.below hl2 HB.out.lt)
  have hL2 : Low w w2 := Low.trans hL hl2
  have hge := hL.size
  obtain ⟨g2, hg2⟩ : ∃ g, g = w1.heap.size := ⟨_, rfl⟩
  rw [← hg2] at HZ hge ⊢
  clear hl2 hL hz2 hg2
  go_wp2_with fail
  refine (demand_yes 0 w2).mono ?_
  rintro e w3 ⟨rfl, rfl⟩
  go_wp2_with (first | (with_reducible refine wpList_load_head rfl (.tmp 2) rfl w.heap.size rfl h HB.out HS.out HD.out ?_) | ((with_reducible refine wpList_store_head rfl (.tmp 4) (.tmp 9) rfl g2 rfl h rfl zeroH HZ.out rfl rfl HS.out HD.out ?_); intro w8 HG8 hb8 hz8; refine Hid.out ?_))
  refine Lib.hid ?_
  have hL8 : Low w w8 := Below.trans hL2 (hb8.mono hge)
  go_wp2_with fail
  exact ret_head1 Tryz.results70 rfl HG8 HS.out HD.out ⟨rfl, hL8⟩ rfl
omit hk in
set_option maxRecDepth 100000 in
theorem musth_no (er : Int) (he : er ≠ 0) : Calls Tryz.prog 70 #[headV h, .int .i64 er] w fun e w' => e = Thrown er ∧ Low w w' := by
  unfold headV
  go_enter Tryz.func70, Tryz.ntmps70
  go_wp2_with ((with_reducible refine wpList_box_v rfl 26 (.tmp 0) rfl (headC h) rfl ?_); intro w1 HB hL hz1; refine Hid.out ?_)
  refine Lib.hid ?_
  clear hz1
  go_wp2_with ((with_reducible refine wpList_alloc_v rfl 26 rfl (headC zeroH) (by kernel_rfl) ?_); intro w2 HZ hl2 hz2; refine Hid.out ?_)
  refine Lib.hid ?_
  have hL2 : Low w w2 := Low.trans hL hl2
  clear HZ hl2 hL hz2 HB
  have hd : (er == 0) = false := by simpa using he
  go_wp2_with fail
  refine (demand_no er w2).mono ?_
  rintro e w3 ⟨rfl, rfl⟩
  unfold Thrown
  go_wp2_with fail
  exact ⟨rfl, rfl, hL2⟩
end

section
variable (A : Option Addr) (n c : Nat) (xs : List Int) (w : World) (hn : n ≤ 140737488355328) (hc : n ≤ c) (hc2 : c ≤ 9223372036854775807) (hb : Bs w w.heap.size A n xs)
include hn hc hc2 hb
set_option maxHeartbeats 1600000 in
set_option maxRecDepth 100000 in
theorem whole_get (er : Int) (her : getE xs = er) (he : er ≠ 0) : Calls Tryz.prog 41 #[.slice A n c] w fun e w' => e = Thrown er ∧ Low w w' := by
  go_enter Tryz.func41, Tryz.ntmps41
  go_wp2_with ((with_reducible refine wpList_alloc_v rfl 26 rfl (headC zeroH) (by kernel_rfl) ?_); intro w1 HZ hL hz1; refine Hid.out ?_)
  refine Lib.hid ?_
  replace hL : Low w w1 := hL
  clear HZ hz1
  go_wp2_with fail
  refine (get_any A n c xs w1 hn hc hc2 (hb.below' hL hL.size)).mono ?_
  rintro e w2 ⟨rfl, hl2⟩
  rw [her]
  replace hL := hL.trans hl2
  clear hl2
  have HE := Lib.hid her
  clear her
  go_wp2_with fail
  refine (musth_no _ w2 er he).mono ?_
  rintro e w3 ⟨rfl, hl3⟩
  unfold Thrown
  replace hL := hL.trans hl3
  clear hl3
  go_wp2_with fail
  exact ⟨rfl, rfl, hL⟩
set_option maxHeartbeats 1600000 in
set_option maxRecDepth 100000 in
theorem whole_len (h : Hd) (her : getE xs = 0) (hh : getH xs = h) (h40 : 40 ≤ n) (hlen : h.ln ≠ (n : Int) - 40) : Calls Tryz.prog 41 #[.slice A n c] w fun e w' => e = Thrown 5 ∧ Low w w' := by
  have HO := Lib.hid (getH_ok hb.all)
  rw [hh] at HO
  have HS := Lib.hid HO.out.s
  have HD := Lib.hid HO.out.d
  go_enter Tryz.func41, Tryz.ntmps41
  go_wp2_with ((with_reducible refine wpList_alloc_v rfl 26 rfl (headC zeroH) (by kernel_rfl) ?_); intro w1 HZ hL hz1; refine Hid.out ?_)
  refine Lib.hid ?_
  replace hL : Low w w1 := hL
  clear HZ hz1
  go_wp2_with fail
  refine (get_any A n c xs w1 hn hc hc2 (hb.below' hL hL.size)).mono ?_
  rintro e w2 ⟨rfl, hl2⟩
  rw [her, hh]
  replace hL := hL.trans hl2
  clear hl2 her hh hb
  go_wp2_with fail
  refine (musth_yes _ w2 HO.out).mono ?_
  rintro e w3 ⟨rfl, hl3⟩
  unfold headV
  replace hL := hL.trans hl3
  clear hl3
  go_wp2_with ((with_reducible refine wpList_alloc_v rfl 26 rfl (headC zeroH) (by kernel_rfl) ?_); intro w4 HZ hl4 hz4; refine Hid.out ?_)
  refine Lib.hid ?_
  replace HZ := Lib.hid HZ
  have HLa : Hid (Low w w3) := Lib.hid hL
  clear hz4
  go_wp2_with ((with_reducible refine wpList_store_head rfl (.tmp 3) (.tmp 8) rfl w3.heap.size rfl h rfl zeroH HZ.out rfl rfl HS.out HD.out ?_); intro w8 HG8 hb8 hz8; refine Hid.out ?_)
  refine Lib.hid ?_
  have hl8 : Low w3 w8 := Below.trans hl4 hb8
  replace hL : Low w w8 := HLa.out.trans hl8
  have c2 := HG8.cell 2
  replace c2 : _ = some (Value.int .i64 h.ln) := c2
  have hd : (h.ln == (n : Int) - 40) = false := by simpa using hlen
  clear HG8 hb8 hz8 hl8 hl4 HZ
  go_wp2_with fail
  refine (demand_no 5 w8).mono ?_
  rintro e w9 ⟨rfl, rfl⟩
  unfold Thrown
  go_wp2_with fail
  exact ⟨rfl, rfl, hL⟩
set_option maxHeartbeats 1600000 in
set_option maxRecDepth 100000 in
theorem whole_yes (h : Hd) (her : getE xs = 0) (hh : getH xs = h) (h40 : 40 ≤ n) (hlen : h.ln = (n : Int) - 40) : Calls Tryz.prog 41 #[.slice A n c] w fun e w' => e = .returned (headV h) ∧ Low w w' := by
  have HO := Lib.hid (getH_ok hb.all)
  rw [hh] at HO
  have HS := Lib.hid HO.out.s
  have HD := Lib.hid HO.out.d
  go_enter Tryz.func41, Tryz.ntmps41
  go_wp2_with ((with_reducible refine wpList_alloc_v rfl 26 rfl (headC zeroH) (by kernel_rfl) ?_); intro w1 HR hL hz1; refine Hid.out ?_)
  refine Lib.hid ?_
  replace hL : Low w w1 := hL
  replace HR := Lib.hid HR
  clear hz1
  go_wp2_with fail
  refine (get_any A n c xs w1 hn hc hc2 (hb.below' hL hL.size)).mono ?_
  rintro e w2 ⟨rfl, hl2⟩
  rw [her, hh]
  replace hL := hL.trans hl2
  replace HR := Lib.hid (HR.out.below hl2 HR.out.lt)
  clear hl2 her hh hb
  go_wp2_with fail
  refine (musth_yes _ w2 HO.out).mono ?_
  rintro e w3 ⟨rfl, hl3⟩
  unfold headV
  replace hL := hL.trans hl3
  replace HR := Lib.hid (HR.out.below hl3 HR.out.lt)
  clear hl3
  go_wp2_with ((with_reducible refine wpList_alloc_v rfl 26 rfl (headC zeroH) (by kernel_rfl) ?_); intro w4 HZ hl4 hz4; refine Hid.out ?_)
  refine Lib.hid ?_
  replace HZ := Lib.hid HZ
  have HLa : Hid (Low w w3) := Lib.hid hL
  clear hz4
  go_wp2_with ((with_reducible refine wpList_store_head rfl (.tmp 3) (.tmp 8) rfl w3.heap.size rfl h rfl zeroH HZ.out rfl rfl HS.out HD.out ?_); intro w8 HG8 hb8 hz8; refine Hid.out ?_)
  refine Lib.hid ?_
  have hl8 : Low w3 w8 := Below.trans hl4 hb8
  replace hL : Low w w8 := HLa.out.trans hl8
  replace HR := Lib.hid (HR.out.below hl8 HR.out.lt)
  have c2 := HG8.cell 2
  replace c2 : _ = some (Value.int .i64 h.ln) := c2
  have hd : (h.ln == (n : Int) - 40) = true := by simpa using hlen
  replace HG8 := Lib.hid HG8
  clear hb8 hz8 hl8 hl4 HZ hlen
  go_wp2_with fail
  refine (demand_yes 5 w8).mono ?_
  rintro e w9 ⟨rfl, rfl⟩
  go_wp2_with (first | (with_reducible refine wpList_load_head rfl (.tmp 3) rfl w3.heap.size rfl h HG8.out HS.out HD.out ?_) | ((with_reducible refine wpList_store_head rfl (.tmp 2) (.tmp 16) rfl w.heap.size rfl h rfl zeroH HR.out rfl rfl HS.out HD.out ?_); intro w10 HG10 hb10 hz10; refine Hid.out ?_))
  refine Lib.hid ?_
  have hL10 : Low w w10 := Below.trans hL hb10
  go_wp2_with fail
  exact ret_head1 Tryz.results41 rfl HG10 HS.out HD.out ⟨rfl, hL10⟩ rfl
omit hc hc2 hn in
theorem whole_no (er : Int) (her : wholeE xs = er) (he : er ≠ 0) (hn : n ≤ 140737488355328) (hc : n ≤ c) (hc2 : c ≤ 9223372036854775807) : Calls Tryz.prog 41 #[.slice A n c] w fun e w' => e = Thrown er ∧ Low w w' := by
  have hl := hb.len
  unfold wholeE at her
  rcases getE_cases xs with ⟨h1, h2, h3⟩ | ⟨h1, h2, h3, h4⟩ | ⟨h1, h2, h3, h4⟩
  · rw [h2, if_neg (by omega)] at her
    exact whole_get A n c xs w hn hc hc2 hb er (h2.trans her) he
  · rw [h3, if_pos rfl] at her
    by_cases h5 : (getL xs).ln = (xs.length : Int) - 40
    · rw [if_pos h5] at her; omega
    · rw [if_neg h5] at her
      subst her
      exact whole_len A n c xs w hn hc hc2 hb _ h3 h4 (by omega) (by rw [← hl]; exact h5)
  · rw [h3, if_neg (by omega)] at her
    exact whole_get A n c xs w hn hc hc2 hb er (h3.trans her) he
theorem dwhole_any (her : wholeE xs = 0) : Calls Tryz.prog 41 #[.slice A n c] w fun e w' => e = .returned (headV (getL xs)) ∧ Low w w' := by
  obtain ⟨h1, h2, h3, h4, h5⟩ := wholeE_zero her
  have hl := hb.len
  exact whole_yes A n c xs w hn hc hc2 hb _ h1 h4 (by omega) (by rw [← hl]; exact h5)
end
end Go.Proofs.YtdpbhhoabnmbpaaGreat

namespace Go.Proofs.YtdpbhhoabnmbpaaGreat
open Go.RowKit
set_option linter.unusedVariables false

section
variable {P : Program} {ops : Array Oper} {Q : Exit → Act → World → Prop} {S : World → Prop}
theorem held_of_planD (D : Option Tmp → Bool) (hs : Region.noSelect ops = true) (hD : ops.all (fun o => D o.dst) = true) (hQ : ∀ c a d v w, D d = true → Q (.panic c) (Act.put a d v) w → Q (.panic c) a w) :
    ∀ (r : Plan) (n : Nat) (listed : Array Bool) (a : Act) (w : World), S w → planB ops r n listed = true → walkS P ops Q S r a w → wpAnyH P .any ops Q S n listed a w
  | .done, n, listed, a, w, _, ho, h => wpAnyH_done (by simpa [planB] using ho) h n
  | .rd i r, n + 1, listed, a, w, hS, ho, h => by
    simp only [planB, Bool.and_eq_true] at ho
    obtain ⟨o, v, hi, hy, hw⟩ := h
    have hd : D o.dst = true := by
      have := Array.all_eq_true_iff_forall_mem.1 hD o (Array.mem_of_getElem? hi)
      simpa using this
    exact wpAnyH_take hi hs ho.1.2 ho.1.1 (fun c a w => hQ c a _ _ w hd) hy hS (held_of_planD D hs hD hQ r n _ _ w hS ho.2 hw)
  | .act i r, n + 1, listed, a, w, hS, ho, h => by
    simp only [planB, Bool.and_eq_true, beq_iff_eq] at ho
    refine wpAnyH_all ho.1 (by simp) fun j hj => ?_
    obtain rfl : j = i := by simpa using hj
    exact wpOp_mono (fun a' w' h' => ⟨h'.1, held_of_planD D hs hD hQ r n _ a' w' h'.1 ho.2 h'.2⟩) h
  | .fork i p j q, n + 1, listed, a, w, hS, ho, h => by
    simp only [planB, Bool.and_eq_true, beq_iff_eq] at ho
    refine wpAnyH_all ho.1.1 (by simp) fun k hk => ?_
    rcases List.mem_cons.1 hk with rfl | hk
    · exact wpOp_mono (fun a' w' h' => ⟨h'.1, held_of_planD D hs hD hQ p n _ a' w' h'.1 ho.1.2 h'.2⟩) h.1
    · obtain rfl : k = j := by simpa using hk
      exact wpOp_mono (fun a' w' h' => ⟨h'.1, held_of_planD D hs hD hQ q n _ a' w' h'.1 ho.2 h'.2⟩) h.2
  | .rd _ _, 0, _, _, _, _, ho, _ => by simp [planB] at ho
  | .act _ _, 0, _, _, _, _, ho, _ => by simp [planB] at ho
  | .fork _ _ _ _, 0, _, _, _, _, ho, _ => by simp [planB] at ho

/-- what holds where a region is left, but a way that gives up is told by R alone -/
def orThrow (R : List PanicEntry → Act → World → Prop) (Q : Exit → Act → World → Prop) : Exit → Act → World → Prop
  | .panic c, a, w => R c a w
  | e, a, w => Q e a w
/-- a region that draws, of which a call may give up: R is what holds then, whatever was read -/
theorem wp_region_planD {id : Nat} {a : Act} {w : World} (S : World → Prop) (R : List PanicEntry → Act → World → Prop) (r : Plan) (D : Option Tmp → Bool) (hm : P.follows .mixedOrders = true) (hs : Region.noSelect ops = true) (hD : ops.all (fun o => D o.dst) = true)
    (hR : ∀ c a d v w, D d = true → R c (Act.put a d v) w → R c a w) (hRQ : ∀ c a w, R c a w → Q (.panic c) a w) (ho : planB ops r ops.size (Array.replicate ops.size false) = true) (hS : S w.drew)
    (h : walkS P ops (orThrow R Q) S r a w.drew) : (Code.region id ops true).wp P Q a w :=
  Code.wp_mono (Q := orThrow R Q) (fun e a' w' hq => by cases e with | panic c => exact hRQ c a' w' hq | _ => exact hq) (wp_region_held hm (held_of_planD (Q := orThrow R Q) D hs hD (fun c a d v w hd hq => hR c a d v w hd hq) r ops.size _ a _ hS ho h))
/-- none gives up -/
theorem wp_region_planN {id : Nat} {a : Act} {w : World} (S : World → Prop) (r : Plan) (hm : P.follows .mixedOrders = true) (hs : Region.noSelect ops = true) (ho : planB ops r ops.size (Array.replicate ops.size false) = true) (hS : S w.drew)
    (h : walkS P ops (orThrow (fun _ _ _ => False) Q) S r a w.drew) : (Code.region id ops true).wp P Q a w :=
  wp_region_planD S (fun _ _ _ => False) r (fun _ => true) hm hs (by simp) (fun _ _ _ _ _ _ h => h) (fun _ _ _ h => h.elim) ho hS h
end

section
variable {P : Program} {F : FuncId} {fn : Func} {tmps : Array Value} {R : Ending → World → Prop} {p : Addr} {w : World}
/-- a call that defers one closure is left by a return -/
theorem door_ret (hi : (invoke (.fn (.func F) #[.pointer (some p)]) #[]).run P w = .ok (.enter F #[.pointer (some p)]) w)
    (hc : CallsD P F #[.pointer (some p)] .returning w fun e u' w' => e = .returned (.tuple #[]) ∧ u' = .returning ∧ w' = w.setCell p (.int .i64 0))
    (v : Value) (hr : (results fn tmps).run P (w.setCell p (.int .i64 0)) = .ok v (w.setCell p (.int .i64 0))) (hR : R (.returned v) (w.setCell p (.int .i64 0))) :
    bodyPostD P fn R .ret ⟨tmps, [{ target := .fn (.func F) #[.pointer (some p)], args := #[] }]⟩ w := by
  show Leaves P fn tmps R _ .returning w
  refine leaves_cons (by simp) hi (hc.mono ?_)
  rintro e u' w' ⟨rfl, rfl, rfl⟩
  exact ⟨v, hr, hR⟩
/-- it is left by a panic, which the closure tells as an error -/
theorem door_panic (er : Int) (hi : (invoke (.fn (.func F) #[.pointer (some p)]) #[]).run P w = .ok (.enter F #[.pointer (some p)]) w)
    (hc : CallsD P F #[.pointer (some p)] (.panicking ({ v := errV er, recovered := false } :: [])) w fun e u' w' => e = .returned (.tuple #[]) ∧ u' = .panicking ({ v := errV er, recovered := true } :: []) ∧ w' = w.setCell p (.int .i64 er))
    (v : Value) (hr : (results fn tmps).run P (w.setCell p (.int .i64 er)) = .ok v (w.setCell p (.int .i64 er))) (hR : R (.returned v) (w.setCell p (.int .i64 er))) :
    bodyPostD P fn R (.panic [{ v := errV er, recovered := false }]) ⟨tmps, [{ target := .fn (.func F) #[.pointer (some p)], args := #[] }]⟩ w := by
  show Leaves P fn tmps R _ (.panicking [{ v := errV er, recovered := false }]) w
  refine leaves_cons (by simp) hi (hc.mono ?_)
  rintro e u' w' ⟨rfl, rfl, rfl⟩
  exact ⟨v, hr, hR⟩
end
theorem run_loadErr (w : World) (g : Nat) (x : Int) (hc : w.cell? ⟨g, 0, none⟩ = some (.int .i64 x)) : (loadVar 39 ⟨g, 0, none⟩).run Tryz.prog w = .ok (.int .i64 x) w := by
  simp [loadVar, isAgg, run_underlying Tryz.underlying39, hc, go_sem]
theorem results_tmp_cell {fn : Func} {p q : Tmp} (h : fn.results = #[.tmp p, .cell q 39]) (tmps : Array Value) (w : World) (g : Nat) (v : Value) (x : Int)
    (hp : tmps.getD p undef = v) (hq : tmps.getD q undef = .pointer (some ⟨g, 0, none⟩)) (hc : w.cell? ⟨g, 0, none⟩ = some (.int .i64 x)) : (results fn tmps).run Tryz.prog w = .ok (.tuple #[v, .int .i64 x]) w := by
  have hp' : tmps[p]?.getD undef = v := by simpa using hp
  have hq' : tmps[q]?.getD undef = .pointer (some ⟨g, 0, none⟩) := by simpa using hq
  simp [results, h, hp', hq', asAddr, run_loadErr w g x hc]
/-- bytes are where no number is -/
theorem Bs.setNum {w : World} {B n : Nat} {A : Option Addr} {xs : List Int} (h : Bs w B A n xs) {p : Addr} {x : Int} (hp : w.cell? p = some (.int .i64 x)) (u : Value) : Bs (w.setCell p u) B A n xs :=
  ⟨h.len, h.all, fun hn => by
    obtain ⟨b, o, e, hb, hc⟩ := h.mem hn
    refine ⟨b, o, e, hb, fun i hi => ?_⟩
    rw [World.cell?_setCell_other, hc i hi]
    intro e2
    have h1 := hc i hi
    rw [← e2, hp] at h1
    injection h1 with h1
    injection h1 with h1 _
    cases h1⟩
/-- the error's cell -/
theorem blkE {w : World} {g : Nat} {x : Int} (h : BlkV w 39 g [.int .i64 x]) (y : Int) : BlkV (w.setCell ⟨g, 0, none⟩ (.int .i64 y)) 39 g [.int .i64 y] := BlkV.set_ h 0 (.int .i64 y)
theorem err_zero : (Tryz.prog.info? 39).map (·.zero) = some (some (.int .i64 0)) := by kernel_rfl
end Go.Proofs.YtdpbhhoabnmbpaaGreat

namespace Go.Proofs.YtdpbhhoabnmbpaaGreat
open Go.RowKit
set_option linter.unusedVariables false

/-- the error of Header -/
def hdrE (xs : List Int) : Int := if wholeE xs = 0 then (if (getL xs).nx = 43 then errR (xs.drop 40) else 7) else wholeE xs
theorem hdrE_zero {xs : List Int} (h : hdrE xs = 0) : wholeE xs = 0 ∧ (getL xs).nx = 43 ∧ errR (xs.drop 40) = 0 := by
  unfold hdrE at h
  by_cases h1 : wholeE xs = 0
  · rw [if_pos h1] at h
    by_cases h2 : (getL xs).nx = 43
    · rw [if_pos h2] at h; exact ⟨h1, h2, h⟩
    · rw [if_neg h2] at h; omega
  · rw [if_neg h1] at h; exact absurd h h1
/-- stores into whole rows, with what stays -/
theorem wp_store_head {o : Oper} {a : Act} {w : World} {K : Act → World → Prop} {Q : Exit → Act → World → Prop} (x y : Operand) (ho : o.op = .store 26 x y) (g : Nat) (hx : a.eval x = .pointer (some ⟨g, 0, none⟩)) (h : Hd) (hy : a.eval y = .agg (headC h).toArray) (old : Hd) (hb : BlkH w g old)
    (hos : old.s.length = 16) (hod : old.d.length = 16) (hs : h.s.length = 16) (hd : h.d.length = 16)
    (hk : ∀ w', BlkH w' g h → Below g w w' → w'.heap.size = w.heap.size → (∀ k : Nat, k ≠ g → w'.heap[k]? = w.heap[k]?) → K (a.put o.dst undef) w') : o.wp Tryz.prog a w K Q :=
  wp_store_row 26 x y ho g _ hx hy _ _ hb (by rw [head_size]; simp [headC_length hs hd]) (by simp [headC_length hs hd, headC_length hos hod])
    (by rw [Array.all_eq_true_iff_forall_mem]; intro v hv; exact headC_one h v (by simpa using hv)) (hk _ (BlkV.setRow hb _) (low_setRow _ _ _ (Nat.le_refl _)) (by simp) (fun k hk => by simp [World.setRow, Array.getElem?_modify, Ne.symm hk]))
theorem wp_store_sr {o : Oper} {a : Act} {w : World} {K : Act → World → Prop} {Q : Exit → Act → World → Prop} (x y : Operand) (ho : o.op = .store 30 x y) (g : Nat) (hx : a.eval x = .pointer (some ⟨g, 0, none⟩)) (s : Sr) (hy : a.eval y = .agg (srC s).toArray) (old : Sr) (hb : BlkR w g old)
    (hk : ∀ w', BlkR w' g s → Below g w w' → w'.heap.size = w.heap.size → (∀ k : Nat, k ≠ g → w'.heap[k]? = w.heap[k]?) → K (a.put o.dst undef) w') : o.wp Tryz.prog a w K Q :=
  wp_store_row 30 x y ho g _ hx hy _ _ hb (by rw [sr_size]; rfl) rfl (srC_one s) (hk _ (BlkV.setRow hb _) (low_setRow _ _ _ (Nat.le_refl _)) (by simp) (fun k hk => by simp [World.setRow, Array.getElem?_modify, Ne.symm hk]))
/-- a header stays where only other blocks change -/
theorem Sr.ok.others {w w' : World} {B lo : Nat} {s : Sr} (h : s.ok w B) (hf : s.from_ lo) (hk : ∀ k : Nat, lo ≤ k → w'.heap[k]? = w.heap[k]?) : s.ok w' B := h.upper hf fun p hp _ => World.cell?_of_block (hk _ hp)

section
variable (A : Option Addr) (n c : Nat) (xs : List Int) (w : World) (hn : n ≤ 140737488355328) (hc : n ≤ c) (hc2 : c ≤ 9223372036854775807) (hb : Bs w w.heap.size A n xs)
include hn hc hc2 hb
end
end Go.Proofs.YtdpbhhoabnmbpaaGreat

namespace Go.Proofs.YtdpbhhoabnmbpaaGreat
open Go.RowKit
set_option linter.unusedVariables false

theorem wpList_alloc_e {ops : Array Oper} {rest : List Oper} {o : Oper} {a : Act} {w : World} {Q : Exit → Act → World → Prop} (hgd : o.guard = none) (ho : o.op = .alloc 39)
    (hk : ∀ w', BlkV w' 39 w.heap.size [.int .i64 0] → Low w w' → w'.heap.size = w.heap.size + 1 → wpList Tryz.prog ops Q rest (a.put o.dst (.pointer (some ⟨w.heap.size, 0, none⟩))) w') : wpList Tryz.prog ops Q (o :: rest) a w :=
  wpList_plain hgd fun K hK => by
    cases hq : Tryz.prog.info? 39 with
    | none => have := err_zero; simp [hq] at this
    | some i =>
      have hz' : i.zero = some (.int .i64 0) := by have := err_zero; simpa [hq] using this
      unfold Oper.wp execOp
      simp only [ho, Instr.alloc, zeroValue, typeInfo, run_program, hq, hz', newVar, newRow, Value.cells, Sem.run_bind, run_newObj, Result.andThen_ok, Sem.run_pure]
      exact hK _ _ (hk _ (BlkV.new w 39 [.int .i64 0]) (Low.alloc w _) (by simp))
theorem wpList_store_headB {ops : Array Oper} {rest : List Oper} {o : Oper} {a : Act} {w : World} {Q : Exit → Act → World → Prop} (hgd : o.guard = none) (x y : Operand) (ho : o.op = .store 26 x y) (g : Nat) (hx : a.eval x = .pointer (some ⟨g, 0, none⟩)) (h : Hd) (hy : a.eval y = .agg (headC h).toArray) (old : Hd) (hb : BlkH w g old)
    (hos : old.s.length = 16) (hod : old.d.length = 16) (hs : h.s.length = 16) (hd : h.d.length = 16)
    (hk : ∀ w', BlkH w' g h → Below g w w' → w'.heap.size = w.heap.size → (∀ k : Nat, k ≠ g → w'.heap[k]? = w.heap[k]?) → wpList Tryz.prog ops Q rest (a.put o.dst undef) w') : wpList Tryz.prog ops Q (o :: rest) a w :=
  wpList_plain hgd fun K hK => wp_store_head x y ho g hx h hy old hb hos hod hs hd fun w' a1 a2 a3 a4 => hK _ _ (hk w' a1 a2 a3 a4)
theorem wpList_store_srB {ops : Array Oper} {rest : List Oper} {o : Oper} {a : Act} {w : World} {Q : Exit → Act → World → Prop} (hgd : o.guard = none) (x y : Operand) (ho : o.op = .store 30 x y) (g : Nat) (hx : a.eval x = .pointer (some ⟨g, 0, none⟩)) (s : Sr) (hy : a.eval y = .agg (srC s).toArray) (old : Sr) (hb : BlkR w g old)
    (hk : ∀ w', BlkR w' g s → Below g w w' → w'.heap.size = w.heap.size → (∀ k : Nat, k ≠ g → w'.heap[k]? = w.heap[k]?) → wpList Tryz.prog ops Q rest (a.put o.dst undef) w') : wpList Tryz.prog ops Q (o :: rest) a w :=
  wpList_plain hgd fun K hK => wp_store_sr x y ho g hx s hy old hb fun w' a1 a2 a3 a4 => hK _ _ (hk w' a1 a2 a3 a4)
theorem BlkV.others {w w' : World} {t : TypeId} {g g' : Nat} {vs : List Value} (h : BlkV w t g vs) (hk : ∀ k : Nat, k ≠ g' → w'.heap[k]? = w.heap[k]?) (hg : g ≠ g') : BlkV w' t g vs := (hk g hg).trans h
theorem setCell_others (w : World) (p : Addr) (u : Value) : ∀ k : Nat, k ≠ p.block → (w.setCell p u).heap[k]? = w.heap[k]? := fun k hk => Below.heap_setCell w p u k hk
theorem BlkE.c {w : World} {g : Nat} {x : Int} (h : BlkV w 39 g [.int .i64 x]) : w.cell? ⟨g, 0, none⟩ = some (.int .i64 x) := h.cell 0
theorem BlkE.f {w : World} {g : Nat} {x : Int} (h : BlkV w 39 g [.int .i64 x]) : w.frozen? ⟨g, 0, none⟩ = false := h.frozen 0
section
variable (A : Option Addr) (n c : Nat) (xs : List Int) (w : World) (hn : n ≤ 140737488355328) (hc : n ≤ c) (hc2 : c ≤ 9223372036854775807) (hb : Bs w w.heap.size A n xs)
include hn hc hc2 hb
end
end Go.Proofs.YtdpbhhoabnmbpaaGreat

namespace Go.Proofs.YtdpbhhoabnmbpaaGreat
open Go.RowKit
set_option linter.unusedVariables false

theorem getE_back {h : Hd} {ys : List Int} (hk : h.ok) (hc : canB h = true) : getE (headL h ++ ys) = 0 := (get_back h ys hk hc).1
theorem getL_back {h : Hd} {ys : List Int} (hk : h.ok) (hc : canB h = true) : getL (headL h ++ ys) = h := by
  have h1 := (get_back h ys hk hc).2
  unfold getH at h1
  rw [if_pos (getE_back hk hc)] at h1
  exact h1
theorem drop_back {h : Hd} {ys : List Int} (hk : h.ok) : (headL h ++ ys).drop 40 = ys := List.drop_left' (headL_length hk)
theorem len_back {h : Hd} {ys : List Int} (hk : h.ok) : (headL h ++ ys).length = 40 + ys.length := by rw [List.length_append, headL_length hk]
theorem putL_yes {h : Hd} (hc : canB h = true) : putL h = headL h := by unfold putL; rw [if_pos hc]
theorem sizedH_can {h : Hd} {m : Int} (hc : canB h = true) (h0 : 0 ≤ m) (h1 : m ≤ 65535) : canB (sizedH m h) = true := by
  have := can_range hc
  unfold canB sizedH
  rw [decide_eq_true_eq]
  dsimp only
  omega
theorem sized_out {h : Hd} {ys : List Int} {N : Nat} (hk : h.ok) (hc : canB h = true) (hl : ys.length = N) (hN : N ≤ 65535) :
    outE (headL h ++ ys) (szE (headL h ++ ys)) = 0 ∧ outL (headL h ++ ys) (szH (headL h ++ ys)) (szE (headL h ++ ys)) = headL (sizedH (N : Int) h) ++ ys := by
  have hlen : ((headL h ++ ys).length : Int) - 40 = N := by rw [len_back hk, hl]; omega
  have e1 : szE (headL h ++ ys) = 0 := by unfold szE; rw [hlen, if_neg (by omega)]
  have e2 : szH (headL h ++ ys) = sizedH (N : Int) h := by unfold szH; rw [hlen, if_neg (by omega), getL_back hk hc]
  have e3 : outE (headL h ++ ys) 0 = 0 := by unfold outE; rw [if_pos (getE_back hk hc)]
  rw [e1]
  refine ⟨e3, ?_⟩
  unfold outL
  rw [if_pos e3, e2, putL_yes (sizedH_can hc (by omega) (by omega)), drop_back hk]
end Go.Proofs.YtdpbhhoabnmbpaaGreat

namespace Go.Proofs.YtdpbhhoabnmbpaaGreat
open Go.RowKit
set_option linter.unusedVariables false

set_option maxHeartbeats 1600000 in
set_option maxRecDepth 100000 in
theorem packet_any (h : Hd) (A : Option Addr) (m c : Nat) (vs : List (Option Addr × Nat × Nat)) (yss : List (List Int)) (N : Nat) (w : World) (hk : h.ok) (hcan : canB h = true) (hm : vs.length = m) (hm2 : m ≤ 140737488355328) (hr : Row w A vs yss)
    (hN : yss.flatten.length = N) (hbig : N ≤ 65535) :
    Calls Tryz.prog 46 #[headV h, .slice A m c] w fun e w' => ∃ A' c', e = .returned (.slice A' (40 + N) c') ∧ OwnB 5 w' w.heap.size A' (40 + N) c' (headL (sizedH (N : Int) h) ++ yss.flatten) ∧ Low w w' := by
  obtain ⟨i0, hi, hz0, hz1, hz2⟩ := info_parts info5
  have HI := Lib.hid (And.intro hi (And.intro hz0 (And.intro hz1 hz2)))
  clear hi hz0 hz1 hz2
  have HO := Lib.hid hk
  have HS := Lib.hid hk.s
  have HD := Lib.hid hk.d
  have HN := Lib.hid hN
  have HM := Lib.hid hm
  have HHL := Lib.hid (headL_length hk)
  have HPL := Lib.hid (putL_yes hcan)
  clear hN hm hk
  unfold headV
  go_enter Tryz.func46, Tryz.ntmps46
  go_wp2_with ((with_reducible refine wpList_box_v rfl 26 (.tmp 0) rfl (headC h) rfl ?_); intro w1 HB hL hz1; refine Hid.out ?_)
  refine Lib.hid ?_
  replace HB := Lib.hid HB
  clear hz1
  go_wp2_with (with_reducible refine wpList_load_head rfl (.tmp 2) rfl w.heap.size rfl h HB.out HS.out HD.out ?_)
  refine (put_any none 0 0 [] h w1 HO.out (by omega) (Bs.nil _ _ _)).mono ?_
  rintro e w2 ⟨v, rfl, g2, rfl, hg2, hk2, hl2, ha2, hlow2⟩
  rw [List.nil_append] at hk2 hl2 ha2
  rw [HPL.out] at hk2 hl2 ha2
  rw [HPL.out, HHL.out, Nat.zero_add]
  have hsz1 : w.heap.size < w1.heap.size := HB.out.lt
  have hL2 : Low w w2 := Low.trans hL hlow2
  have hown : OwnB 5 w2 w1.heap.size (some ⟨g2, 0, none⟩) 40 40 (headL h ++ upto yss 0) := by
    show OwnB _ _ _ _ _ _ (headL h ++ [])
    rw [List.append_nil]
    exact OwnB.ofBlk hk2 ha2 hg2 HHL.out (by simp only [maxLen]; omega)
  have HOW := Lib.hid hown
  have hge2 := hlow2.size
  clear hg2 hk2 hl2 ha2 hlow2 hown
  generalize w1.heap.size = g1 at *
  go_wp2_with fail
  have HB2 := Lib.hid (Below.refl g1 w2)
  go_loopw [5, 12] (fun s i wr => ∃ j : Nat, j ≤ m ∧ i = .int .i64 j ∧ ∃ (A' : Option Addr) (n' c' : Nat), s = .slice A' n' c' ∧ Hid (n' = 40 + (upto yss j).length) ∧ Hid (OwnB 5 wr g1 A' n' c' (headL h ++ upto yss j)) ∧ Hid (Below g1 w2 wr) ∧ g1 ≤ wr.heap.size) (fun _ i _ => m - (intOf i).toNat)
  case atStart => exact ⟨0, Nat.zero_le _, rfl, _, _, _, rfl, Lib.hid rfl, HOW, HB2, hge2⟩
  case round =>
    clear HOW HB2
    obtain ⟨j, hj, rfl, A', n', c', rfl, HNN, HOW, HBR, hgr⟩ := hrel
    have hup := upto_le yss j
    rw [HN.out] at hup
    have hn' := HNN.out
    have hL3 : Low w wr := Below.trans hL2 (HBR.out.mono (by omega))
    by_cases hlt : j < m
    · obtain ⟨b, o, rfl, hbw, hcc⟩ := hr.mem (by rw [HM.out]; omega)
      obtain ⟨a, n, cc, hve⟩ : ∃ a n cc, vs.getD j (none, 0, 0) = (a, n, cc) := ⟨_, _, _, rfl⟩
      have h0 := hcc j (by rw [HM.out]; omega)
      have hv := hr.each j (by rw [HM.out]; omega)
      rw [hve] at h0 hv
      dsimp only at h0 hv
      have hv2 := hv.below' hL3 hL3.size
      rw [← hL3.cell (p := ⟨b, o + j, none⟩) hbw] at h0
      have hle : (upto yss (j + 1)).length = (upto yss j).length + n := by rw [upto_succ yss j (by rw [hr.len, HM.out]; omega), List.length_append, hv.len]
      have HL := Lib.hid hle
      have HSU := Lib.hid (upto_succ yss j (by rw [hr.len, HM.out]; omega))
      have hup2 := upto_le yss (j + 1)
      rw [HN.out] at hup2
      have hlim : n' + n ≤ 140737488355328 := by omega
      clear hcc hv hle hve hup hup2 hn'
      obtain ⟨ys, hys⟩ : ∃ ys, ys = yss.getD j [] := ⟨_, rfl⟩
      rw [← hys] at hv2 HSU
      have HV2 := Lib.hid hv2
      clear hys hv2
      obtain ⟨hi, hz0, hz1, hz2⟩ := HI.out
      go_wp2_with (at_builtin; refine wpList_append_bs rfl _ _ 22 rfl g1 5 i0 Tryz.underlying22 hi hz0 hz1 hz2 A' n' c' (headL h ++ upto yss j) rfl HOW.out a n cc wr.heap.size ys rfl HV2.out hlim hgr ?_; intro A5 c5 w5 hown5 hgr5 hob; refine Hid.out ?_)
      refine Lib.hid ?_
      have hlt2 := HOW.out.lt
      have hb5 := HBR.out.grown hgr5 (by omega) fun k e => (hlt2 k e).1
      rw [List.append_assoc, ← HSU.out] at hown5
      have HOW5 := Lib.hid hown5
      have HB5 := Lib.hid hb5
      have hge5 := Nat.le_trans hgr hgr5.size
      have HN5 : Hid (n' + n = 40 + (upto yss (j + 1)).length) := Lib.hid (by rw [HL.out, HNN.out]; omega)
      clear hown5 hob hb5 hlt2 hgr5 hi hz0 hz1 hz2 h0 HV2
      go_wp2_with fail
      exact ⟨⟨j + 1, by omega, by go_num, _, _, _, rfl, HN5, HOW5, HB5, hge5⟩, by simp [intOf]; omega⟩
    · obtain rfl : j = m := by omega
      have hal : upto yss j = yss.flatten := upto_all yss j (by rw [hr.len, HM.out]; omega)
      have hown := HOW.out
      rw [hal] at hn' hown
      rw [HN.out] at hn'
      clear HNN
      subst hn'
      have hcap := hown.cap
      simp only [maxLen] at hcap
      have HSO := Lib.hid (sized_out HO.out hcan HN.out hbig)
      have HLE := Lib.hid (show (headL (sizedH (N : Int) h) ++ yss.flatten).length = 40 + N by rw [len_back (sizedH_ok HO.out (by unfold i64ok; omega)), HN.out])
      have HBS := Lib.hid (hown.bs (Nat.le_refl _))
      have HL3 := Lib.hid hL3
      clear HOW HBR hown hal hup
      go_wp2_with fail
      refine (sized_own A' (40 + N) c' (headL h ++ yss.flatten) wr (by omega) (by omega) (by omega) HBS.out).mono ?_
      rintro e w6 ⟨A6, c6, rfl, ho6, hB6⟩
      rw [HSO.out.1, HSO.out.2, HLE.out]
      rw [HSO.out.2, HLE.out] at ho6
      have HO6 := Lib.hid (ho6.lower HL3.out.size)
      have hL6 := HL3.out.trans hB6
      clear ho6 hB6 HSO HLE HBS
      go_wp2_with fail
      refine (mustb_yes A6 (40 + N) c6 w6).mono ?_
      rintro e w6 ⟨rfl, rfl⟩
      go_wp2_with fail
      go_ret
      exact ⟨A6, c6, rfl, HO6.out, hL6⟩
end Go.Proofs.YtdpbhhoabnmbpaaGreat

namespace Go.Proofs.YtdpbhhoabnmbpaaGreat
open Go.RowKit
set_option linter.unusedVariables false

def setNx (x : Int) (h : Hd) : Hd := { h with nx := x }
theorem setNx_ok {x : Int} {h : Hd} (hk : h.ok) (hx : i64ok x) : (setNx x h).ok := ⟨hk.cl, hk.lb, hk.ln, hx, hk.hp, hk.s, hk.d, hk.vs, hk.vd⟩
theorem setNx_can {x : Int} {h : Hd} (hc : canB h = true) (h0 : 0 ≤ x) (h1 : x ≤ 255) : canB (setNx x h) = true := by
  have := can_range hc
  unfold canB setNx
  rw [decide_eq_true_eq]
  dsimp only
  omega
theorem toH_can {d : List Int} {h : Hd} (hc : canB h = true) : canB (toH d h) = true := hc
theorem walkS_done {P : Program} {ops : Array Oper} {S : World → Prop} {R : List PanicEntry → Act → World → Prop} {Q : Exit → Act → World → Prop} {a : Act} {w : World} (h : Q .normal a w) : walkS P ops (orThrow R Q) S .done a w := h
theorem GivesR.of {w w' : World} {n : Nat} {ys zs : List Int} {er er' : Int} {A : Option Addr} {c : Nat} (hy : ys = zs) (hx : er = er') (hl : zs.length = n) (hc : n ≤ c) (hc2 : c ≤ 9223372036854775807) (h : Bs w' w'.heap.size A n zs) (hB : Low w w') : GivesR w ys.length ys er (.returned (.tuple #[.slice A n c, .int .i64 er'])) w' := by
  subst hy hx hl
  exact ⟨A, c, rfl, hc, hc2, h, hB⟩

section
variable (A : Option Addr) (n c : Nat) (xs : List Int) (w : World) (hn : n ≤ 140737488355328) (hc : n ≤ c) (hc2 : c ≤ 9223372036854775807) (hb : Bs w w.heap.size A n xs)
include hn hc hc2 hb
end
end Go.Proofs.YtdpbhhoabnmbpaaGreat

namespace Go.Proofs.YtdpbhhoabnmbpaaGreat
open Go.RowKit
set_option linter.unusedVariables false

theorem nearH_can {h : Hd} (hc : canB h = true) (hp : 1 < h.hp) : canB (nearH h) = true := by
  have := can_range hc
  unfold canB nearH
  rw [decide_eq_true_eq]
  dsimp only
  omega
theorem segR_all {l : List (List Int)} (h : AllA l) (k : Int) : AllB (segR l k) := by
  unfold segR
  split
  · exact (h.getD _).2
  · exact zero_all
theorem put_getD (a : Act) (d : Option Tmp) (v : Value) (k : Nat) (h : d ≠ some k) : (a.put d v).tmps.getD k undef = a.tmps.getD k undef := by
  cases d with
  | none => rfl
  | some j =>
    have : j ≠ k := fun e => h (by rw [e])
    simp [Act.put, this]
theorem put_defers (a : Act) (d : Option Tmp) (v : Value) : (a.put d v).defers = a.defers := by cases d <;> rfl

section
variable (A : Option Addr) (n c : Nat) (xs : List Int) (w : World) (hn : n ≤ 140737488355328) (hc : n ≤ c) (hc2 : c ≤ 9223372036854775807) (hb : Bs w w.heap.size A n xs)
include hn hc hc2 hb
end
end Go.Proofs.YtdpbhhoabnmbpaaGreat

namespace Go.Proofs.YtdpbhhoabnmbpaaGreat
open Go.RowKit
set_option linter.unusedVariables false

theorem setCs_get : ∀ (us xs : List Value) (o j : Nat), o + us.length ≤ xs.length → (setCs xs o us)[j]? = if o ≤ j ∧ j < o + us.length then us[j - o]? else xs[j]?
  | [], xs, o, j, h => by
    rw [if_neg (by simp)]
    rfl
  | u :: r, xs, o, j, h => by
    rw [List.length_cons] at h
    have ih := setCs_get r (xs.set o u) (o + 1) j (by rw [List.length_set]; omega)
    show (setCs (xs.set o u) (o + 1) r)[j]? = _
    rw [ih]
    by_cases h1 : j = o
    · subst h1
      rw [if_neg (by omega), if_pos (by simp), Nat.sub_self, List.getElem?_set_self (by omega)]
      rfl
    · by_cases h2 : o + 1 ≤ j ∧ j < o + 1 + r.length
      · rw [if_pos h2, if_pos (by simp only [List.length_cons]; omega), show j - o = (j - (o + 1)) + 1 by omega, List.getElem?_cons_succ]
      · rw [if_neg h2, if_neg (by simp only [List.length_cons]; omega), List.getElem?_set_ne (by omega)]
theorem ownsRow_set {w : World} {base k n c g : Nat} {t : TypeId} {xs : List Value} (h : w.ownsRow base t k (.slice (some ⟨g, 0, none⟩) n c) n xs) (i : Nat) (u : Value) (hi : i < xs.length) : (w.setCell ⟨g, i, none⟩ u).ownsRow base t k (.slice (some ⟨g, 0, none⟩) n c) n (xs.set i u) := by
  obtain ⟨h1, h2⟩ := h
  refine ⟨by rw [List.length_set]; exact h1, ?_⟩
  rcases h2 with ⟨e, h0⟩ | ⟨g', cap, cur, hv, hbg, hg, hnc, hcm, hsz, htk⟩
  · cases e
  · injection hv with hA hn' hc'
    injection hA with hA
    injection hA with hA _ _
    subst hA hc'
    refine .inr ⟨g, c, cur.setIfInBounds i u, rfl, hbg, ?_, hnc, hcm, by simpa using hsz, ?_⟩
    · simp [World.setCell, Array.getElem?_modify, hg]
    · rw [← htk]
      simp [List.take_set]
theorem ownsRow_setCells {base k n c g : Nat} {t : TypeId} : ∀ (us : List Value) (o : Nat) (w : World) (xs : List Value), w.ownsRow base t k (.slice (some ⟨g, 0, none⟩) n c) n xs → o + us.length ≤ xs.length → (w.setCells g o us).ownsRow base t k (.slice (some ⟨g, 0, none⟩) n c) n (setCs xs o us)
  | [], _, _, _, h, _ => h
  | u :: r, o, w, xs, h, hl => by
    rw [List.length_cons] at hl
    exact ownsRow_setCells r (o + 1) _ _ (ownsRow_set h o u (by omega)) (by rw [List.length_set]; omega)
theorem AllA.set {l : List (List Int)} (h : AllA l) {s : List Int} (hs : s.length = 16) (ha : AllB s) (i : Nat) : AllA (l.set i s) := fun y hy => by
  rcases List.mem_or_eq_of_mem_set hy with h1 | h1
  · exact h y h1
  · rw [h1]; exact ⟨hs, ha⟩
theorem setD_get (l : List (List Int)) (i j : Nat) (s : List Int) (hi : i < l.length) : (l.set i s).getD j zero16 = if j = i then s else l.getD j zero16 := by
  by_cases h : j = i
  · subst h; simp [List.getD, hi]
  · rw [if_neg h]; simp [List.getD, List.getElem?_set_ne (Ne.symm h)]
theorem flatA_set {l : List (List Int)} (h : AllA l) {s : List Int} (hs : s.length = 16) (ha : AllB s) {i : Nat} (hi : i < l.length) : setCs (cellsB l.flatten) (i * 16) (cellsB s) = cellsB (l.set i s).flatten := by
  have hf := flatA_len h
  have hf2 := flatA_len (h.set hs ha i)
  rw [List.length_set] at hf2
  apply List.ext_getElem?
  intro j
  rw [setCs_get _ _ _ _ (by rw [cellsB_length, cellsB_length, hs, hf]; omega), cellsB_length, hs]
  by_cases hj : j < l.length * 16
  · have e : j = j / 16 * 16 + j % 16 := by omega
    rw [cellsB_get (xs := (l.set i s).flatten) (by rw [hf2]; exact hj)]
    have h3 : (l.set i s).flatten.getD j 0 = ((l.set i s).getD (j / 16) zero16).getD (j % 16) 0 := by
      have := flatA_get (h.set hs ha i) (i := j / 16) (j := j % 16) (by rw [List.length_set]; omega) (by omega)
      rw [← e] at this
      exact this
    rw [h3, setD_get l i _ s hi]
    by_cases hm : i * 16 ≤ j ∧ j < i * 16 + 16
    · rw [if_pos hm, if_pos (by omega), cellsB_get (by rw [hs]; omega), show j - i * 16 = j % 16 by omega]
    · rw [if_neg hm, if_neg (by omega), cellsB_get (by rw [hf]; exact hj)]
      have := flatA_get h (i := j / 16) (j := j % 16) (by omega) (by omega)
      rw [← e] at this
      rw [this]
  · rw [if_neg (by omega), List.getElem?_eq_none (by rw [cellsB_length, hf]; omega), List.getElem?_eq_none (by rw [cellsB_length, hf2]; omega)]
/-- one address of a row of the call's own is stored anew -/
theorem OwnA.setAt {t : TypeId} {w : World} {base n c g : Nat} {l : List (List Int)} (h : OwnA t w base (some ⟨g, 0, none⟩) n c l) {s : List Int} (hs : s.length = 16) (ha : AllB s) {i : Nat} (hi : i < n) : OwnA t (w.setCells g (i * 16) (cellsB s)) base (some ⟨g, 0, none⟩) n c (l.set i s) := by
  obtain ⟨h1, h2, h3⟩ := h
  have h4 := ownsRow_setCells (cellsB s) (i * 16) w _ h1 (by rw [cellsB_length, cellsB_length, hs, flatA_len h2, h3]; omega)
  rw [flatA_set h2 hs ha (by omega)] at h4
  exact ⟨h4, h2.set hs ha i, by rw [List.length_set]; exact h3⟩
theorem OwnA.form {t : TypeId} {w : World} {base n c : Nat} {A : Option Addr} {l : List (List Int)} (h : OwnA t w base A n c l) (hn : 0 < n) : ∃ g, A = some ⟨g, 0, none⟩ ∧ base ≤ g ∧ g < w.heap.size := by
  obtain ⟨g, cap, hv, hb, hlt⟩ := World.ownsRow.form h.1 hn
  injection hv with hA
  exact ⟨g, hA, hb, hlt⟩
theorem OwnA.there {t : TypeId} {w : World} {base n c g : Nat} {l : List (List Int)} (h : OwnA t w base (some ⟨g, 0, none⟩) n c l) {i : Nat} (hi : i < n) : w.there g (i * 16) 16 := fun j hj => by
  have hc : w.cell? ⟨g, i * 16 + j, none⟩ = some (.int .u8 (l.flatten.getD (i * 16 + j) 0)) := by
    have := World.ownsRow.cells h.1 (g := g) rfl (i * 16 + j) (.int .u8 (l.flatten.getD (i * 16 + j) 0)) (cellsB_get (by rw [flatA_len h.2.1, h.2.2]; omega))
    simpa [Addr.add_lit] using this
  refine ⟨by rw [hc]; rfl, ?_⟩
  obtain ⟨⟨h1, h2⟩, _⟩ := h
  rcases h2 with ⟨e, h0⟩ | ⟨g', cap, cur, hv, hbg, hg, hnc, hcm, hsz, htk⟩
  · cases e
  · injection hv with hA hn' hc'
    injection hA with hA
    injection hA with hA _ _
    subst hA
    simp [World.frozen?, hg]

theorem OwnA.fresh (w : World) (t : TypeId) {base : Nat} (hb : base ≤ w.heap.size) : OwnA t (w.alloc (.cells #[] t)) base (some ⟨w.heap.size, 0, none⟩) 0 0 [] :=
  ⟨⟨rfl, .inr ⟨w.heap.size, 0, #[], rfl, hb, heap_alloc_new w (.cells #[] t), Nat.le_refl _, by simp [maxLen], rfl, rfl⟩⟩, AllA.nil, rfl⟩
set_option maxRecDepth 100000 in
set_option maxHeartbeats 1600000 in
theorem cloneA_any (ad : Addr) (n c : Nat) (l : List (List Int)) (w : World) (hn : n ≤ 4294967296) (hb : As w w.heap.size (some ad) n l) : Calls Tryz.prog 73 #[.slice (some ad) n c] w fun e w' => ∃ A' c', e = .returned (.slice A' n c') ∧ OwnA 24 w' w.heap.size A' n c' l ∧ Low w w' := by
  obtain ⟨i0, hi, hz0, hz1, hz2⟩ := info_parts info_addrR
  have hl := Low.alloc w (.cells #[] 24)
  have hO := OwnA.fresh (base := w.heap.size) w 24 (Nat.le_refl _)
  have hb1 := hb.below hl
  have HLT := Lib.hid hO.lt
  have HL := Lib.hid hl
  have hnil : (binOp .eql 27 (.slice (some ad) n c) (.slice none 0 0)).run Tryz.prog w = .ok (.bool false) w := Lib.run_eql_slice_nil w 27 24 (some ad) n c 0 0 Tryz.underlying27
  clear hb hl
  go_enter Tryz.func73, Tryz.ntmps73
  go_wp2_with (at_builtin; refine wpList_append_as rfl _ _ 27 rfl w.heap.size 24 i0 Tryz.underlying27 hi hz0 hz1 hz2 _ 0 0 [] rfl hO _ n c w.heap.size l rfl hb1 (by omega) (by simp) ?_; intro A2 c2 w1 hown hgr hob; refine Hid.out ?_)
  refine Lib.hid ?_
  have hB := HL.out.grown hgr (by simp) fun k e => (HLT.out k e).1
  rw [List.nil_append] at hown
  have HOW := Lib.hid hown
  clear hgr hob hown hO hb1 hnil
  go_wp2_with fail
  go_ret
  exact ⟨A2, c2, by simp, by simpa using HOW.out, hB⟩
/-- the first k and the last k of a list are exchanged -/
theorem walkS_forkD {P : Program} {ops : Array Oper} {Q : Exit → Act → World → Prop} {S : World → Prop} {i j : Nat} {p q : Plan} {a : Act} {w : World} (h1 : walkS P ops Q S (.act i p) a w) (h2 : walkS P ops Q S (.act j q) a w) : walkS P ops Q S (.fork i p j q) a w := ⟨h1, h2⟩
def Mir (l l' : List (List Int)) (k : Nat) : Prop := l'.length = l.length ∧ ∀ a, a < l.length → l'.getD a zero16 = if a < k ∨ l.length ≤ a + k then l.getD (l.length - 1 - a) zero16 else l.getD a zero16
theorem Mir.zero (l : List (List Int)) : Mir l l 0 := ⟨rfl, fun a ha => by rw [if_neg (by omega)]⟩
theorem Mir.all {l l' : List (List Int)} {k : Nat} (h : Mir l l' k) (hk : l.length ≤ 2 * k + 1) : l' = l.reverse := by
  apply List.ext_getElem?
  intro a
  by_cases ha : a < l.length
  · have h2 := h.2 a ha
    have e1 : l'[a]? = some (l'.getD a zero16) := by rw [List.getD_eq_getElem?_getD, List.getElem?_eq_getElem (by rw [h.1]; exact ha)]; rfl
    have e2 : l.reverse[a]? = some (l.getD (l.length - 1 - a) zero16) := by
      rw [List.getElem?_reverse ha, List.getD_eq_getElem?_getD, List.getElem?_eq_getElem (by omega)]; rfl
    rw [e1, e2, h2]
    split
    · rfl
    · rw [show l.length - 1 - a = a by omega]
  · rw [List.getElem?_eq_none (by rw [h.1]; omega), List.getElem?_eq_none (by rw [List.length_reverse]; omega)]
theorem Mir.next {l l' : List (List Int)} {k : Nat} (h : Mir l l' k) (hk : 2 * k + 1 < l.length) : Mir l ((l'.set k (l'.getD (l.length - 1 - k) zero16)).set (l.length - 1 - k) (l'.getD k zero16)) (k + 1) := by
  refine ⟨by rw [List.length_set, List.length_set, h.1], fun a ha => ?_⟩
  rw [setD_get _ _ _ _ (by rw [List.length_set, h.1]; omega), setD_get _ _ _ _ (by rw [h.1]; omega)]
  by_cases h1 : a = l.length - 1 - k
  · rw [if_pos h1, if_pos (by omega), h.2 k (by omega), if_neg (by omega)]
    congr 1
    omega
  · rw [if_neg h1]
    by_cases h2 : a = k
    · subst h2
      rw [if_pos rfl, if_pos (by omega), h.2 _ (by omega), if_neg (by omega)]
    · rw [if_neg h2, h.2 a ha]
      by_cases h3 : a < k ∨ l.length ≤ a + k
      · rw [if_pos h3, if_pos (by omega)]
      · rw [if_neg h3, if_neg (by omega)]
set_option maxRecDepth 100000 in
set_option maxHeartbeats 3200000 in
theorem reverseA_any (g n c base : Nat) (l : List (List Int)) (w : World) (hn : n ≤ 4294967296) (h0 : 0 < n) (hbase : base ≤ w.heap.size) (ho : OwnA 24 w base (some ⟨g, 0, none⟩) n c l) : Calls Tryz.prog 74 #[.slice (some ⟨g, 0, none⟩) n c] w fun e w' => e = .returned (.tuple #[]) ∧ OwnA 24 w' base (some ⟨g, 0, none⟩) n c l.reverse ∧ Below base w w' := by
  have HLen := Lib.hid ho.2.2
  have HA0 := Lib.hid ho.2.1
  obtain ⟨g', hg', hgb, hglt⟩ := ho.form h0
  obtain rfl : g = g' := by injection hg' with e; injection e
  have HO := Lib.hid ho
  have HM0 := Lib.hid (Mir.zero l)
  have HB0 := Lib.hid (Below.refl base w)
  clear ho hg'
  go_enter Tryz.func74, Tryz.ntmps74
  go_wp2_with fail
  go_loopw [2, 3] (fun s i wr => ∃ (k : Nat) (l' : List (List Int)), s = .int .i64 k ∧ i = .int .i64 ((n : Int) - 1 - k) ∧ 2 * k ≤ n + 1 ∧ Hid (Mir l l' k) ∧ Hid (OwnA 24 wr base (some ⟨g, 0, none⟩) n c l') ∧ Hid (Below base w wr)) (fun s _ _ => n - (intOf s).toNat)
  case atStart => exact ⟨0, l, rfl, by go_num, by omega, HM0, HO, HB0⟩
  case round =>
    clear HO HM0 HB0
    obtain ⟨k, l', rfl, rfl, hk, HM, HO, HBR⟩ := hrel
    by_cases hlt : 2 * k + 1 < n
    · have hkn : (k : Int) < (n : Int) - 1 - k := by omega
      go_wp2_with fail
      obtain ⟨j, hj⟩ : ∃ j : Nat, j = n - 1 - k := ⟨_, rfl⟩
      have hji : (n : Int) - 1 - k = (j : Int) := by omega
      rw [hji]
      have hk2 : (k : Int) < n := by omega
      have hj2 : (j : Int) < n := by omega
      have hj3 : j < n := by omega
      have hjh := Lib.hid hj
      clear hj hji
      refine wp_region_planN (fun _ => True) (.rd 0 (.rd 1 (.rd 2 (.rd 3 (.rd 4 (.rd 5 (.rd 6 (.rd 8 (.rd 9 (.rd 10 (.fork 7 (.act 11 (.rd 12 (.act 13 (.rd 14 (.act 15 (.done)))))) 11 (.act 7 (.rd 12 (.act 13 (.rd 14 (.act 15 (.done)))))))))))))))))
        (by kernel_rfl) (by kernel_rfl) (by kernel_rfl) trivial ?_
      have hO2 : OwnA 24 wr.drew base (some ⟨g, 0, none⟩) n c l' := HO.out.below (Below.drew (Below.refl _ _))
      have hB2 : Below base w wr.drew := Below.drew HBR.out
      generalize wr.drew = w2 at *
      iterate 10 (refine walkS_read (v := _) rfl (by rfl) (by intro y hy; go_simp; try rfl) ?_; simp only [Act.put, List.setIfInBounds_toArray, List.set_cons_zero, List.set_cons_succ])
      have hal := hO2.2.1
      have hry : w2.rangeAt g (j * 16) (cellsB (l'.getD j zero16)) := by have h := ((hO2.lies (Nat.le_refl _)).at_ hj3).2; rwa [Nat.zero_add] at h
      have hrx : w2.rangeAt g (k * 16) (cellsB (l'.getD k zero16)) := by have h := ((hO2.lies (Nat.le_refl _)).at_ (show k < n by omega)).2; rwa [Nat.zero_add] at h
      obtain ⟨x16, xa⟩ := hal.getD k
      obtain ⟨y16, ya⟩ := hal.getD j
      have HNX := Lib.hid (HM.out.next (by rw [HLen.out]; omega))
      rw [HLen.out, ← hjh.out] at HNX
      generalize l'.getD j zero16 = y at *
      generalize l'.getD k zero16 = x at *
      clear hal
      refine walkS_forkD ?fa ?fb
      case' fb =>
        refine walkS_act rfl (by rfl) (fun K hK => ?_)
        refine wp_load_mid 24 (.tmp 24) rfl g (k * 16) rfl (cellsB x) _ hrx Tryz.underlying24 rfl (by rw [addr_size]; simp [cellsB_length, x16]) ?_
        refine hK _ _ trivial ?_
        clear hK K
        simp only [Act.put, List.setIfInBounds_toArray, List.set_cons_zero, List.set_cons_succ]
        refine walkS_act rfl (by rfl) (fun K hK => ?_)
        refine wp_load_mid 24 (.tmp 20) rfl g (j * 16) rfl (cellsB y) _ hry Tryz.underlying24 rfl (by rw [addr_size]; simp [cellsB_length, y16]) ?_
      case' fa =>
        refine walkS_act rfl (by rfl) (fun K hK => ?_)
        refine wp_load_mid 24 (.tmp 20) rfl g (j * 16) rfl (cellsB y) _ hry Tryz.underlying24 rfl (by rw [addr_size]; simp [cellsB_length, y16]) ?_
        refine hK _ _ trivial ?_
        clear hK K
        simp only [Act.put, List.setIfInBounds_toArray, List.set_cons_zero, List.set_cons_succ]
        refine walkS_act rfl (by rfl) (fun K hK => ?_)
        refine wp_load_mid 24 (.tmp 24) rfl g (k * 16) rfl (cellsB x) _ hrx Tryz.underlying24 rfl (by rw [addr_size]; simp [cellsB_length, x16]) ?_
      all_goals
        refine hK _ _ trivial ?_
        clear hK K hrx hry
        simp only [Act.put, List.setIfInBounds_toArray, List.set_cons_zero, List.set_cons_succ]
        refine walkS_read (v := _) rfl (by rfl) (by intro y hy; go_simp; try rfl) ?_
        simp only [Act.put, List.setIfInBounds_toArray, List.set_cons_zero, List.set_cons_succ]
        refine walkS_act rfl (by rfl) (fun K hK => ?_)
        have hth := hO2.there (show k < n by omega)
        refine wp_store_mid 24 (.tmp 26) (.tmp 21) rfl g (k * 16) (cellsB y).toArray rfl rfl (by simpa [cellsB_length, y16] using hth) (by rw [addr_size]; simp [cellsB_length, y16]) (all_oneCell_toArray (cellsB_one y)) ?_
        have hO3 := hO2.setAt y16 ya (show k < n by omega)
        have hB3 := low_setMid hgb (cellsB y) (k * 16) w2 w hB2
        refine hK _ _ trivial ?_
        clear hK K hth hO2 hB2
        simp only [Act.put]
        generalize w2.setCells g (k * 16) (cellsB y) = w3 at *
        refine walkS_read (v := _) rfl (by rfl) (by intro y hy; go_simp; try rfl) ?_
        simp only [Act.put, List.setIfInBounds_toArray, List.set_cons_zero, List.set_cons_succ]
        refine walkS_act rfl (by rfl) (fun K hK => ?_)
        have hth := hO3.there hj3
        refine wp_store_mid 24 (.tmp 27) (.tmp 25) rfl g (j * 16) (cellsB x).toArray rfl rfl (by simpa [cellsB_length, x16] using hth) (by rw [addr_size]; simp [cellsB_length, x16]) (all_oneCell_toArray (cellsB_one x)) ?_
        have HO4 := Lib.hid (hO3.setAt x16 xa hj3)
        have HB4 := Lib.hid (low_setMid hgb (cellsB x) (j * 16) w3 w hB3)
        refine hK _ _ trivial ?_
        clear hK K hth hO3 hB3
        simp only [Act.put]
        generalize w3.setCells g (j * 16) (cellsB x) = w4 at *
        refine walkS_done ?_
        go_wp2_with fail
        exact ⟨⟨k + 1, _, by go_num, congrArg (Value.int .i64) (by have := hjh.out; omega), by omega, HNX, HO4, HB4⟩, by simp [intOf]; omega⟩
    · have hkn : ¬ (k : Int) < (n : Int) - 1 - k := by omega
      go_wp2_with fail
      exact bodyPost_end (results_nilD Tryz.results74 _ _) rfl ⟨rfl, by rw [← HM.out.all (by rw [HLen.out]; omega)]; exact HO.out, HBR.out⟩
end Go.Proofs.YtdpbhhoabnmbpaaGreat

namespace Go.Proofs.YtdpbhhoabnmbpaaGreat
open Go.RowKit
set_option linter.unusedVariables false

theorem OwnA.lowerD {t : TypeId} {w : World} {base base' n c : Nat} {A : Option Addr} {l : List (List Int)} (h : OwnA t w base A n c l) (hb : base' ≤ base) : OwnA t w base' A n c l :=
  ⟨⟨h.1.1, h.1.2.imp id fun ⟨a, b, cc, d, e, f⟩ => ⟨a, b, cc, d, by omega, f⟩⟩, h.2⟩
theorem wp_one_addrD {o : Oper} {a : Act} {w : World} {K : Act → World → Prop} {Q : Exit → Act → World → Prop} (x : Operand) (ho : o.op = .buildSlice 27 1 #[(0, x)]) (s : List Int) (hx : a.eval x = .agg (cellsB s).toArray) (hs : s.length = 16)
    (hk : K (a.put o.dst (.slice (some ⟨w.heap.size, 0, none⟩) 1 1)) (w.alloc (.cells (cellsB s).toArray 24))) : o.wp Tryz.prog a w K Q := by
  unfold Oper.wp execOp
  have h := run_one_addr s hs w
  rw [← hx] at h
  simp only [ho, Sem.run_bind, Sem.run_pure, Result.andThen_ok, List.map_toArray, List.map_cons, List.map_nil, h]
  exact hk
set_option maxRecDepth 100000 in
set_option maxHeartbeats 3200000 in
theorem segments_of (d : List Int) (ad : Addr) (m c : Nat) (l : List (List Int)) (w : World) (hd : d.length = 16) (vd : AllB d) (hm : 0 < m) (hm9 : m ≤ 9) (hb : As w w.heap.size (some ad) m l) : Calls Tryz.prog 45 #[addrV d, .slice (some ad) m c] w fun e w' => ∃ A' c', e = .returned (.slice A' (m + 1) c') ∧ OwnA 24 w' w.heap.size A' (m + 1) c' (l ++ [d]).reverse ∧ Low w w' := by
  obtain ⟨i0, hi, hz0, hz1, hz2⟩ := info_parts info_addrR
  have HI := Lib.hid (And.intro hi (And.intro hz0 (And.intro hz1 hz2)))
  have HD := Lib.hid hd
  clear hi hz0 hz1 hz2 hd
  unfold addrV
  go_enter Tryz.func45, Tryz.ntmps45
  go_wp2_with ((with_reducible refine wpList_box_v rfl 24 (.tmp 0) rfl (cellsB d) rfl ?_); intro w1 HA0 hL0 hz0; refine Hid.out ?_)
  refine Lib.hid ?_
  replace HA0 : Hid (Blk w1 24 w.heap.size d) := Lib.hid HA0
  clear hz0
  replace hL0 : Low w w1 := hL0
  have hb1 := hb.below' hL0 hL0.size
  clear hb
  go_wp2_with fail
  refine wp_region_planN (fun y => Blk y 24 w.heap.size d) (.rd 0 (.rd 2 (.fork 1 (.act 3 (.act 4 (.rd 5 (.done)))) 3 (.act 1 (.act 4 (.rd 5 (.done)))))))
    (by kernel_rfl) (by kernel_rfl) (by kernel_rfl) HA0.out ?_
  replace HA0 : Hid (Blk w1.drew 24 w.heap.size d) := HA0
  replace hL0 : Low w w1.drew := Below.drew hL0
  replace hb1 : As w1.drew w1.drew.heap.size (some ad) m l := hb1.keep fun _ _ => rfl
  generalize w1.drew = w2 at *
  have hlt0 := HA0.out.lt
  iterate 2 (refine walkS_read (v := _) rfl (by rfl) (by intro y hy; first | exact exec_load_addr rfl hy HD.out | (go_simp; try rfl)) ?_; simp only [Act.put, List.setIfInBounds_toArray, List.set_cons_zero, List.set_cons_succ])
  refine walkS_forkD ?fa ?fb
  case' fb =>
    refine walkS_act rfl (by rfl) (fun K hK => ?_)
    refine wp_one_addrD (.tmp 8) rfl d rfl HD.out ?_
    have hl := Low.alloc w2 (.cells (cellsB d).toArray 24)
    have hone := As.one_ w2 24 d HD.out vd (B := (w2.alloc (.cells (cellsB d).toArray 24)).heap.size) (by simp)
    have HA3 := HA0.out.below hl hlt0
    refine hK _ _ HA3 ?_
    clear hK K
    simp only [Act.put, List.setIfInBounds_toArray, List.set_cons_zero, List.set_cons_succ]
    obtain ⟨gd, hgd⟩ : ∃ g, g = w2.heap.size := ⟨_, rfl⟩
    have hgd2 := Lib.hid hgd
    rw [← hgd] at hone ⊢
    replace hb1 := hb1.below' hl hl.size
    have hLB : Below w2.heap.size w2 (w2.alloc (.cells (cellsB d).toArray 24)) := hl
    clear hl hgd
    generalize w2.alloc (.cells (cellsB d).toArray 24) = w3 at *
    refine walkS_act rfl (by rfl) (fun K hK => ?_)
    go_simp
    refine (cloneA_any ad m c l w3 (by omega) hb1).mono ?_
    rintro e w4 ⟨A4, c4, rfl, ho4, hl4⟩
    go_simp
    have HA4 := HA3.below hl4 HA3.lt
    have HOW : Hid (OwnA 24 w4 w2.heap.size A4 m c4 l) := Lib.hid (ho4.lowerD hLB.size)
    have HON := Lib.hid (hone.below' hl4 hl4.size)
    have HLL : Hid (Below w2.heap.size w2 w4) := Lib.hid (Low.trans hLB hl4)
    clear ho4 hone hLB HA3 hl4
  case' fa =>
    refine walkS_act rfl (by rfl) (fun K hK => ?_)
    go_simp
    refine (cloneA_any ad m c l w2 (by omega) hb1).mono ?_
    rintro e w3 ⟨A4, c4, rfl, ho3, hl3⟩
    go_simp
    have HA3 := HA0.out.below hl3 hlt0
    refine hK _ _ HA3 ?_
    clear hK K
    refine walkS_act rfl (by rfl) (fun K hK => ?_)
    refine wp_one_addrD (.tmp 8) rfl d rfl HD.out ?_
    have hl := Low.alloc w3 (.cells (cellsB d).toArray 24)
    have hone := As.one_ w3 24 d HD.out vd (B := (w3.alloc (.cells (cellsB d).toArray 24)).heap.size) (by simp)
    have HA4 := HA3.below hl HA3.lt
    have HOW : Hid (OwnA 24 (w3.alloc (.cells (cellsB d).toArray 24)) w2.heap.size A4 m c4 l) := Lib.hid (ho3.below hl)
    have HLL : Hid (Below w2.heap.size w2 (w3.alloc (.cells (cellsB d).toArray 24))) := Lib.hid (Low.trans hl3 hl)
    simp only [Act.put, List.setIfInBounds_toArray, List.set_cons_zero, List.set_cons_succ]
    obtain ⟨gd, hgd⟩ : ∃ g, g = w3.heap.size := ⟨_, rfl⟩
    have hgd2 := Lib.hid hgd
    rw [← hgd] at hone ⊢
    have HON := Lib.hid hone
    clear hl hgd hl3 ho3 HA3 hone
    generalize w3.alloc (.cells (cellsB d).toArray 24) = w4 at *
  all_goals
    refine hK _ _ HA4 ?_
    clear hK K HA4
    refine walkS_act rfl (by rfl) (fun K hK => ?_)
    obtain ⟨hi, hz0, hz1, hz2⟩ := HI.out
    have hsz4 := HLL.out.size
    refine wp_append_as (.tmp 7) (.tmp 9) 27 rfl w2.heap.size 24 i0 Tryz.underlying27 hi hz0 hz1 hz2 A4 m c4 l rfl HOW.out (some ⟨gd, 0, none⟩) 1 1 w4.heap.size [d] rfl HON.out (by omega) hsz4 ?_
    intro A5 c5 w5 ho5 hgr hob
    have hlt := HOW.out.lt
    have hL5 : Below w2.heap.size w2 w5 := HLL.out.grown hgr hsz4 (fun k e => (hlt k e).1)
    refine hK _ _ (HA0.out.below hL5 hlt0) ?_
    clear hK K hi hz0 hz1 hz2 hgr hob hlt
    simp only [Act.put, List.setIfInBounds_toArray, List.set_cons_zero, List.set_cons_succ]
    refine walkS_read (v := _) rfl (by rfl) (by intro y hy; go_simp; try rfl) ?_
    simp only [Act.put, List.setIfInBounds_toArray, List.set_cons_zero, List.set_cons_succ]
    refine walkS_done ?_
    obtain ⟨g5, rfl, hge, hglt⟩ := ho5.form (by omega)
    have HO5 := Lib.hid ho5
    have HL5 := Lib.hid hL5
    clear ho5 hL5 HOW HON HLL hsz4
    go_wp2_with fail
    refine (reverseA_any g5 (m + 1) c5 w2.heap.size (l ++ [d]) w5 (by omega) (by omega) HL5.out.size HO5.out).mono ?_
    rintro e w6 ⟨rfl, ho6, hB6⟩
    have HO6 := Lib.hid (ho6.lowerD hL0.size)
    have HL6 : Hid (Low w w6) := Lib.hid (hL0.trans (HL5.out.trans hB6))
    clear ho6 hB6 HO5 HL5
    go_wp2_with fail
    go_ret
    exact ⟨_, _, rfl, HO6.out, HL6.out⟩
end Go.Proofs.YtdpbhhoabnmbpaaGreat

namespace Go.Proofs.YtdpbhhoabnmbpaaGreat
open Go.RowKit
set_option linter.unusedVariables false

/-- the routing header by way of l, with parts; why it can't be put in, and the packet then -/
def viaR (xs : List Int) (l : List (List Int)) (tl : List Ob) : Rb := ⟨(getL xs).nx, (l.length : Nat), 0, 0, (l ++ [(getL xs).d]).reverse, tl⟩
def insE (xs : List Int) (l : List (List Int)) (tl : List Ob) : Int :=
  if wholeE xs = 0 then (if (getL xs).nx = 43 ∨ (getL xs).nx = 0 then 7 else if l.length = 0 ∨ 9 < l.length then 8 else if canR (viaR xs l tl) = 0 then (if 1500 < xs.length + (putR (viaR xs l tl)).length then 4 else 0) else canR (viaR xs l tl)) else wholeE xs
def viaH (xs : List Int) (l : List (List Int)) : Hd := toH (l.getD 0 zero16) (setNx 43 (getL xs))
def insL (xs : List Int) (l : List (List Int)) (tl : List Ob) : List Int :=
  if insE xs l tl = 0 then headL (sizedH (((putR (viaR xs l tl)).length + (xs.length - 40) : Nat) : Int) (viaH xs l)) ++ (putR (viaR xs l tl) ++ xs.drop 40) else []
theorem insE_whole {xs : List Int} {l : List (List Int)} {tl : List Ob} (h : wholeE xs ≠ 0) : insE xs l tl = wholeE xs := by unfold insE; rw [if_neg h]
theorem insE_kind {xs : List Int} {l : List (List Int)} {tl : List Ob} (h : wholeE xs = 0) (h2 : (getL xs).nx = 43 ∨ (getL xs).nx = 0) : insE xs l tl = 7 := by unfold insE; rw [if_pos h, if_pos h2]
theorem insE_many {xs : List Int} {l : List (List Int)} {tl : List Ob} (h : wholeE xs = 0) (h2 : ¬ ((getL xs).nx = 43 ∨ (getL xs).nx = 0)) (h3 : l.length = 0 ∨ 9 < l.length) : insE xs l tl = 8 := by unfold insE; rw [if_pos h, if_neg h2, if_pos h3]
theorem insE_can {xs : List Int} {l : List (List Int)} {tl : List Ob} (h : wholeE xs = 0) (h2 : ¬ ((getL xs).nx = 43 ∨ (getL xs).nx = 0)) (h3 : ¬ (l.length = 0 ∨ 9 < l.length)) (h4 : canR (viaR xs l tl) ≠ 0) : insE xs l tl = canR (viaR xs l tl) := by unfold insE; rw [if_pos h, if_neg h2, if_neg h3, if_neg h4]
theorem insE_long {xs : List Int} {l : List (List Int)} {tl : List Ob} (h : wholeE xs = 0) (h2 : ¬ ((getL xs).nx = 43 ∨ (getL xs).nx = 0)) (h3 : ¬ (l.length = 0 ∨ 9 < l.length)) (h4 : canR (viaR xs l tl) = 0) (h5 : 1500 < xs.length + (putR (viaR xs l tl)).length) : insE xs l tl = 4 := by unfold insE; rw [if_pos h, if_neg h2, if_neg h3, if_pos h4, if_pos h5]
theorem insE_ok {xs : List Int} {l : List (List Int)} {tl : List Ob} (h : wholeE xs = 0) (h2 : ¬ ((getL xs).nx = 43 ∨ (getL xs).nx = 0)) (h3 : ¬ (l.length = 0 ∨ 9 < l.length)) (h4 : canR (viaR xs l tl) = 0) (h5 : ¬ 1500 < xs.length + (putR (viaR xs l tl)).length) : insE xs l tl = 0 := by unfold insE; rw [if_pos h, if_neg h2, if_neg h3, if_pos h4, if_neg h5]
theorem BlkV.atDst {w : World} {g : Nat} {h : Hd} (hb : BlkH w g h) (hs : h.s.length = 16) : w.rangeAt g 21 (cellsB h.d) := fun j v hv => by
  rw [hb.cell]
  show (headC h)[21 + j]? = some v
  rw [← hv, show 21 + j = (16 + j) + 1 + 1 + 1 + 1 + 1 by omega]
  show (cellsB h.s ++ cellsB h.d)[16 + j]? = _
  rw [List.getElem?_append_right (by rw [cellsB_length, hs]; omega), cellsB_length, hs, show 16 + j - 16 = j by omega]
theorem run_build_via (x y : Int) (A B : Option Addr) (n c m d : Nat) (w : World) : (Instr.build 30 #[(0, .int .i64 x), (1, .int .i64 y), (4, .slice A n c), (5, .slice B m d)]).run Tryz.prog w = .ok (.agg #[.int .i64 x, .int .i64 y, .int .i64 0, .int .i64 0, .slice A n c, .slice B m d]) w := by kernel_rfl

theorem setCells_others {g : Nat} : ∀ (us : List Value) (o : Nat) (w : World) (k : Nat), k ≠ g → (w.setCells g o us).heap[k]? = w.heap[k]?
  | [], _, _, _, _ => rfl
  | u :: r, o, w, k, h => (setCells_others r (o + 1) _ k h).trans (setCell_others w ⟨g, o, none⟩ u k h)
theorem OwnB.others {t : TypeId} {w w' : World} {base n c : Nat} {A : Option Addr} {ys : List Int} (h : OwnB t w base A n c ys) (hk : ∀ k : Nat, base ≤ k → w'.heap[k]? = w.heap[k]?) : OwnB t w' base A n c ys := by
  refine ⟨⟨h.1.1, ?_⟩, h.2⟩
  rcases h.1.2 with e | ⟨g, cap, cur, e, hbg, hg, r⟩
  · exact .inl e
  · exact .inr ⟨g, cap, cur, e, hbg, by rw [hk g hbg]; exact hg, r⟩
theorem wp_store_dst {o : Oper} {a : Act} {w : World} {K : Act → World → Prop} {Q : Exit → Act → World → Prop} (x y : Operand) (ho : o.op = .store 24 x y) (g : Nat) (hx : a.eval x = .pointer (some ⟨g, 21, none⟩)) (d : List Int) (hy : a.eval y = .agg (cellsB d).toArray)
    (h : Hd) (hb : BlkH w g h) (hs : h.s.length = 16) (hd : h.d.length = 16) (hn : d.length = 16)
    (hk : BlkH (w.setCells g 21 (cellsB d)) g (toH d h) → K (a.put o.dst undef) (w.setCells g 21 (cellsB d))) : o.wp Tryz.prog a w K Q :=
  wp_store_mid 24 x y ho g 21 (cellsB d).toArray hx hy (hb.there 21 _ (by simp [headC_length hs hd, cellsB_length, hn])) (by rw [addr_size]; simp [cellsB_length, hn])
    (all_oneCell_toArray (cellsB_one d)) (by
      have h2 := BlkV.setMid (cellsB d) 21 w _ hb
      rw [setCs_dst h d hs hd hn] at h2
      exact hk h2)
theorem viaH_ok {xs : List Int} {l : List (List Int)} (ha : AllB xs) (hl : 40 ≤ xs.length) (hv : AllA l) : (viaH xs l).ok ∧ canB (viaH xs l) = true :=
  ⟨toH_ok (setNx_ok (getL_ok ha hl) (by unfold i64ok; omega)) (hv.getD 0).1 (hv.getD 0).2, toH_can (setNx_can (getL_can ha) (by omega) (by omega))⟩

section
variable (A : Option Addr) (n c : Nat) (xs : List Int) (vA : Option Addr) (m vc : Nat) (l : List (List Int)) (tA : Option Addr) (tn tc : Nat) (os : List Od) (w : World)
    (hn : n ≤ 140737488355328) (hc : n ≤ c) (hc2 : c ≤ 9223372036854775807) (hb : Bs w w.heap.size A n xs) (hm : m ≤ 140737488351232) (hv : As w w.heap.size vA m l) (ht : tn ≤ 140737488351232) (hp : Os w w.heap.size tA tn os)
include hn hc hc2 hb hm hv ht hp
set_option maxHeartbeats 6400000 in
set_option maxRecDepth 100000 in
theorem insert_any : Calls Tryz.prog 17 #[.slice A n c, .slice vA m vc, .slice tA tn tc] w fun e w' => GivesR w (insL xs l (os.map Od.v)).length (insL xs l (os.map Od.v)) (insE xs l (os.map Od.v)) e w' := by
  have hmf : ∀ (fn : Fn) (first cap : Array Value) (u : World), (Instr.makeFunc fn first cap).run Tryz.prog u = .ok (.func fn first cap) u := fun _ _ _ _ => rfl
  have HB := Lib.hid hb
  have HVI := Lib.hid hv
  have HP := Lib.hid hp
  have HIL := Lib.hid (show insL xs l (os.map Od.v) = if insE xs l (os.map Od.v) = 0 then headL (sizedH (((putR (viaR xs l (os.map Od.v))).length + (xs.length - 40) : Nat) : Int) (viaH xs l)) ++ (putR (viaR xs l (os.map Od.v)) ++ xs.drop 40) else [] from rfl)
  clear hb hv hp
  go_enter_defers Tryz.func17, Tryz.ntmps17
  go_wp2_with ((with_reducible refine wpList_alloc_e rfl rfl ?_); intro w2 HE hL hz2; refine Hid.out ?_)
  refine Lib.hid ?_
  have hg1 : w.heap.size < w2.heap.size := HE.lt
  replace HE := Lib.hid HE
  clear hz2
  go_wp2_with fail
  by_cases hw : wholeE xs = 0
  · refine (dwhole_any A n c xs w2 hn hc hc2 (HB.out.below' hL hL.size) hw).mono ?_
    rintro e w3 ⟨rfl, hl3⟩
    replace hL := Low.trans hL hl3
    replace HE := Lib.hid (HE.out.below hl3 HE.out.lt)
    have hsz2 := hl3.size
    clear hl3
    obtain ⟨hget, h40, _, _, hln⟩ := wholeE_zero hw
    have hHO := getL_ok HB.out.all h40
    have hCan := getL_can HB.out.all
    have HLen := Lib.hid HB.out.len
    have HVL := Lib.hid HVI.out.len
    have HW := Lib.hid hw
    have hkx : ((getL xs).nx = 43 ∨ (getL xs).nx = 0) → insE xs l (os.map Od.v) = 7 := insE_kind hw
    have HKX := Lib.hid hkx
    have HO := Lib.hid hHO
    have HCan := Lib.hid hCan
    obtain ⟨h, hh⟩ : ∃ h, h = getL xs := ⟨_, rfl⟩
    rw [← hh] at HO HCan HKX hln ⊢
    have HH := Lib.hid hh
    have HS := Lib.hid HO.out.s
    have HD := Lib.hid HO.out.d
    rw [HB.out.len] at h40
    clear hkx hh hCan hHO hget hw
    unfold headV
    go_wp2_with ((with_reducible refine wpList_alloc_v rfl 26 rfl (headC zeroH) (by kernel_rfl) ?_); intro w4 HZ4 hl4 hz4; refine Hid.out ?_)
    refine Lib.hid ?_
    clear hz4
    replace HZ4 := Lib.hid HZ4
    have HLl4 := Lib.hid hl4
    clear hl4
    go_wp2_with ((with_reducible refine wpList_store_headB rfl (.tmp 8) (.tmp 12) rfl w3.heap.size rfl h rfl zeroH HZ4.out rfl rfl HS.out HD.out ?_); intro w6 HG6 hb6 hz6 ho6; refine Hid.out ?_)
    refine Lib.hid ?_
    have hL5 : Low w3 w6 := Below.trans HLl4.out hb6
    replace HE := Lib.hid (HE.out.below hL5 HE.out.lt)
    replace hL := hL.trans hL5
    have c3 := HG6.cell 3
    replace c3 : _ = some (Value.int .i64 h.nx) := c3
    have hg3 : w3.heap.size < w6.heap.size := HG6.lt
    replace HG6 := Lib.hid HG6
    clear hb6 hz6 ho6 HZ4 HLl4 hL5
    generalize w3.heap.size = g8 at *
    by_cases hk : h.nx = 43 ∨ h.nx = 0
    · have HQ := Lib.hid (HKX.out hk)
      have HR2 := Lib.hid (show insL xs l (os.map Od.v) = [] by rw [HIL.out, if_neg (by rw [HQ.out]; decide)])
      have HC3 := Lib.hid c3
      clear c3
      rcases hk with hk | hk
      all_goals
        have c3 := HC3.out
        rw [hk] at c3
        go_wp2_with fail
        refine (demand_no 7 w6).mono ?_
        rintro e w6 ⟨rfl, rfl⟩
        unfold Thrown
        go_wp2_with fail
        rw [HR2.out]
        refine door_panic 7 (by simp [go_sem]) (icatch_panic ⟨w.heap.size, 0, none⟩ _ 7 [] w6 (BlkE.c HE.out) (BlkE.f HE.out)) _ (results_tmp_cell Tryz.results17 _ _ w.heap.size _ 7 rfl rfl (BlkE.c (blkE HE.out 7))) ?_
        exact ⟨none, 0, by rw [HQ.out]; rfl, Nat.le_refl _, by omega, Bs.nil _ _ _, hL.setCell (p := ⟨w.heap.size, 0, none⟩) (Nat.le_refl _) _⟩
    · have hk1 : (h.nx != 43) = true := by simp; omega
      have hk2 : (h.nx != 0) = true := by simp; omega
      have HK := Lib.hid hk
      clear hk
      go_wp2_with fail
      refine (demand_yes 7 w6).mono ?_
      rintro e w6 ⟨rfl, rfl⟩
      clear hk1 hk2 c3
      have HK2 : Hid (¬ ((getL xs).nx = 43 ∨ (getL xs).nx = 0)) := Lib.hid (by rw [← HH.out]; exact HK.out)
      by_cases hmm : m = 0 ∨ 9 < m
      · have HQ := Lib.hid (insE_many (tl := os.map Od.v) HW.out HK2.out (by rw [HVL.out]; exact hmm))
        have HR2 := Lib.hid (show insL xs l (os.map Od.v) = [] by rw [HIL.out, if_neg (by rw [HQ.out]; decide)])
        rcases hmm with hmm | hmm
        · subst hmm
          go_wp2_with fail
          refine (demand_no 8 w6).mono ?_
          rintro e w6 ⟨rfl, rfl⟩
          unfold Thrown
          go_wp2_with fail
          rw [HR2.out]
          refine door_panic 8 (by simp [go_sem]) (icatch_panic ⟨w.heap.size, 0, none⟩ _ 8 [] w6 (BlkE.c HE.out) (BlkE.f HE.out)) _ (results_tmp_cell Tryz.results17 _ _ w.heap.size _ 8 rfl rfl (BlkE.c (blkE HE.out 8))) ?_
          exact ⟨none, 0, by rw [HQ.out]; rfl, Nat.le_refl _, by omega, Bs.nil _ _ _, hL.setCell (p := ⟨w.heap.size, 0, none⟩) (Nat.le_refl _) _⟩
        · have hm0 : (0 : Int) < m := by omega
          have hm9 : decide ((m : Int) ≤ 9) = false := decide_eq_false (by omega)
          go_wp2_with fail
          refine (demand_no 8 w6).mono ?_
          rintro e w6 ⟨rfl, rfl⟩
          unfold Thrown
          go_wp2_with fail
          rw [HR2.out]
          refine door_panic 8 (by simp [go_sem]) (icatch_panic ⟨w.heap.size, 0, none⟩ _ 8 [] w6 (BlkE.c HE.out) (BlkE.f HE.out)) _ (results_tmp_cell Tryz.results17 _ _ w.heap.size _ 8 rfl rfl (BlkE.c (blkE HE.out 8))) ?_
          exact ⟨none, 0, by rw [HQ.out]; rfl, Nat.le_refl _, by omega, Bs.nil _ _ _, hL.setCell (p := ⟨w.heap.size, 0, none⟩) (Nat.le_refl _) _⟩
      · have hm0 : (0 : Int) < m := by omega
        have hm9 : (m : Int) ≤ 9 := by omega
        have hM0 : 0 < m := by omega
        have hM9 : m ≤ 9 := by omega
        have HMM := Lib.hid (show ¬ (l.length = 0 ∨ 9 < l.length) by rw [HVL.out]; exact hmm)
        clear hmm
        go_wp2_with fail
        refine (demand_yes 8 w6).mono ?_
        rintro e w6 ⟨rfl, rfl⟩
        clear hm0 hm9
        obtain ⟨bv, ov, rfl, hbv, hcv⟩ := HVI.out.mem hM0
        clear hcv
        have HR := Lib.hid (show viaR xs l (os.map Od.v) = ⟨h.nx, (m : Nat), 0, 0, (l ++ [h.d]).reverse, os.map Od.v⟩ by unfold viaR; rw [HVL.out, ← HH.out])
        obtain ⟨r, hr⟩ : ∃ r, r = viaR xs l (os.map Od.v) := ⟨_, rfl⟩
        rw [← hr] at HR HIL
        have HRR := Lib.hid hr
        have vd := HO.out.vd
        have hnx := HO.out.nx
        clear hr
        go_wp2_with fail
        by_cases hcan : canR r = 0
        · have HRN := Lib.hid (show insE xs l (os.map Od.v) = if 1500 < n + (putR r).length then 4 else 0 by
            by_cases h5 : 1500 < n + (putR r).length
            · rw [if_pos h5]; exact insE_long HW.out HK2.out HMM.out (by rw [← HRR.out]; exact hcan) (by rw [← HRR.out, HLen.out]; exact h5)
            · rw [if_neg h5]; exact insE_ok HW.out HK2.out HMM.out (by rw [← HRR.out]; exact hcan) (by rw [← HRR.out, HLen.out]; exact h5))
          have HCR := Lib.hid hcan
          refine wp_region_planN (fun y => BlkH y g8 h) (.rd 0 (.rd 1 (.rd 2 (.rd 3 (.rd 4 (.rd 5 (.rd 6 (.rd 8 (.act 7 (.rd 9 (.act 10 (.rd 11 (.rd 12 (.act 13 (.rd 14 (.done))))))))))))))))
            (by kernel_rfl) (by kernel_rfl) (by kernel_rfl) HG6.out ?_
          replace HE : Hid (BlkV w6.drew 39 w.heap.size [.int .i64 0]) := HE
          replace HG6 : Hid (BlkH w6.drew g8 h) := HG6
          replace hL : Low w w6.drew := Below.drew hL
          clear hcan hg3
          generalize w6.drew = w7 at *
          iterate 8 (refine walkS_read (v := _) rfl (by rfl) (by intro y hy; have e3 : y.cell? ⟨g8, 3, none⟩ = some (.int .i64 h.nx) := BlkV.cell hy 3; first | exact exec_load_mid rfl (BlkV.atDst hy HS.out) HD.out | (go_simp; try rfl)) ?_; simp only [Act.put, List.setIfInBounds_toArray, List.set_cons_zero, List.set_cons_succ])
          refine walkS_act rfl (by rfl) (fun K hK => ?_)
          go_simp
          refine (segments_of h.d ⟨bv, ov, none⟩ m vc l w7 HD.out vd hM0 hM9 (HVI.out.below' hL hL.size)).mono ?_
          rintro e w8 ⟨A8, c8, rfl, ho8, hl8⟩
          go_simp
          have HG8 := Lib.hid (HG6.out.below hl8 HG6.out.lt)
          refine hK _ _ HG8.out ?_
          clear hK K
          replace HE := Lib.hid (HE.out.below hl8 HE.out.lt)
          replace hL := hL.trans hl8
          have HA8 := Lib.hid (ho8.lies (Nat.le_refl _))
          clear hl8 ho8 HG6
          have hbv2 := run_build_via h.nx (m : Nat) A8 tA (m + 1) c8 tn tc
          refine walkS_read (v := _) rfl (by rfl) (by intro y hy; have hbv3 := hbv2 y; go_simp; try rfl) ?_
          simp only [Act.put, List.setIfInBounds_toArray, List.set_cons_zero, List.set_cons_succ]
          obtain ⟨sp, hsp⟩ : ∃ sp : Sr, sp = ⟨h.nx, (m : Nat), 0, 0, A8, m + 1, c8, (l ++ [h.d]).reverse, tA, tn, tc, os⟩ := ⟨_, rfl⟩
          have HSV := Lib.hid (show Value.agg #[.int .i64 h.nx, .int .i64 (m : Nat), .int .i64 0, .int .i64 0, .slice A8 (m + 1) c8, .slice tA tn tc] = srV sp by rw [hsp]; rfl)
          have HSR := Lib.hid (show sp.v = r by rw [hsp, HR.out]; rfl)
          have HSok := Lib.hid (show sp.ok w8 w8.heap.size by rw [hsp]; exact ⟨hnx, by unfold i64ok; dsimp only; omega, by unfold i64ok; dsimp only; omega, by unfold i64ok; dsimp only; omega, by dsimp only; omega, HA8.out, ht, HP.out.below' hL hL.size⟩)
          clear hsp
          rw [HSV.out]
          refine walkS_act rfl (by rfl) (fun K hK => ?_)
          go_simp
          refine (srput_any sp w8 HSok.out).mono ?_
          rintro e w9 ⟨A9, c9, rfl, ho9, hl9⟩
          rw [HSR.out] at ho9 ⊢
          rw [HCR.out]
          have HG9 := Lib.hid (HG8.out.below hl9 HG8.out.lt)
          have hp424 : (putR r).length ≤ 424 := putR_len_le (by rw [← HSR.out]; exact HSok.out.sg.all)
          obtain ⟨ps, hps⟩ : ∃ ps, ps = putR r := ⟨_, rfl⟩
          rw [← hps] at ho9 HRN HIL hp424 ⊢
          clear hps
          obtain ⟨z, hz⟩ : ∃ z, z = ps.length := ⟨_, rfl⟩
          rw [← hz] at ho9 HRN HIL hp424 ⊢
          have HZL := Lib.hid hz.symm
          clear hz
          go_simp
          refine hK _ _ HG9.out ?_
          clear hK K
          replace HE := Lib.hid (HE.out.below hl9 HE.out.lt)
          replace hL := hL.trans hl9
          have hcap9 := ho9.cap
          simp only [maxLen] at hcap9
          have hg8w := HG8.out.lt
          have HB9 := Lib.hid ho9
          clear hl9 ho9 HG8 HSok HSV HSR HA8
          iterate 2 (refine walkS_read (v := _) rfl (by rfl) (by intro y hy; go_simp; try rfl) ?_; simp only [Act.put, List.setIfInBounds_toArray, List.set_cons_zero, List.set_cons_succ])
          refine walkS_act rfl (by rfl) (fun K hK => ?_)
          go_simp
          refine (mustb_yes A9 z c9 w9).mono ?_
          rintro e w9 ⟨rfl, rfl⟩
          go_simp
          refine hK _ _ HG9.out ?_
          clear hK K
          refine walkS_read (v := _) rfl (by rfl) (by intro y hy; go_simp; try rfl) ?_
          simp only [Act.put, List.setIfInBounds_toArray, List.set_cons_zero, List.set_cons_succ]
          refine walkS_done ?_
          have hwz : IntKind.i64.wrap ((n : Int) + (z : Int)) = (n : Int) + (z : Int) := wraps_i64 _ (by omega) (by omega)
          by_cases h15 : 1500 < n + z
          · have HQ := Lib.hid (HRN.out.trans (if_pos h15))
            have HR2 := Lib.hid (show insL xs l (os.map Od.v) = [] by rw [HIL.out, if_neg (by rw [HQ.out]; decide)])
            have hd15 : decide ((n : Int) + (z : Int) ≤ 1500) = false := decide_eq_false (by omega)
            go_wp2_with fail
            refine (demand_no 4 w9).mono ?_
            rintro e w9 ⟨rfl, rfl⟩
            unfold Thrown
            go_wp2_with fail
            rw [HR2.out]
            refine door_panic 4 (by simp [go_sem]) (icatch_panic ⟨w.heap.size, 0, none⟩ _ 4 [] w9 (BlkE.c HE.out) (BlkE.f HE.out)) _ (results_tmp_cell Tryz.results17 _ _ w.heap.size _ 4 rfl rfl (BlkE.c (blkE HE.out 4))) ?_
            exact ⟨none, 0, by rw [HQ.out]; rfl, Nat.le_refl _, by omega, Bs.nil _ _ _, hL.setCell (p := ⟨w.heap.size, 0, none⟩) (Nat.le_refl _) _⟩
          · have HQ := Lib.hid (HRN.out.trans (if_neg h15))
            have HR2 := Lib.hid (HIL.out.trans (if_pos HQ.out))
            have hd15 : decide ((n : Int) + (z : Int) ≤ 1500) = true := decide_eq_true (by omega)
            go_wp2_with fail
            refine (demand_yes 4 w9).mono ?_
            rintro e w9 ⟨rfl, rfl⟩
            go_wp2_with fail
            have hrv : w.rangeAt bv ov (cellsB (l.getD 0 zero16)) := by have h := (HVI.out.at_ hM0).2; rwa [Nat.zero_mul, Nat.add_zero] at h
            obtain ⟨v16, va⟩ := HVI.out.all.getD 0
            obtain ⟨hVO, hVC⟩ := viaH_ok (l := l) HB.out.all (by rw [HLen.out]; exact h40) HVI.out.all
            have HVO := Lib.hid hVO
            have HVC := Lib.hid hVC
            have HVH := Lib.hid (show viaH xs l = toH (l.getD 0 zero16) (setNx 43 h) by rw [HH.out]; rfl)
            obtain ⟨v0, hv0⟩ : ∃ v0, v0 = l.getD 0 zero16 := ⟨_, rfl⟩
            rw [← hv0] at hrv v16 va HVH
            have hm1 : (0 : Int) < m := by omega
            have H15 := Lib.hid h15
            clear hv0 hVO hVC hd15 h15
            refine wp_region_planN (fun y => Low w y) (.rd 0 (.rd 1 (.rd 2 (.rd 3 (.act 4 (.rd 5 (.act 6 (.done))))))))
              (by kernel_rfl) (by kernel_rfl) (by kernel_rfl) (Below.drew hL) ?_
            replace HE : Hid (BlkV w9.drew 39 w.heap.size [.int .i64 0]) := HE
            replace HG9 : Hid (BlkH w9.drew g8 h) := HG9
            replace HB9 := Lib.hid (HB9.out.others (w' := w9.drew) (fun _ _ => rfl))
            replace hL : Low w w9.drew := Below.drew hL
            generalize w9.drew = w10 at *
            iterate 4 (refine walkS_read (v := _) rfl (by rfl) (by intro y hy; first | exact exec_load_at rfl v16 (rangeAt_below hrv hy hbv) | (go_simp; try rfl)) ?_; simp only [Act.put, List.setIfInBounds_toArray, List.set_cons_zero, List.set_cons_succ])
            refine walkS_act rfl (by rfl) (fun K hK => ?_)
            have c3 := HG9.out.cell 3
            replace c3 : _ = some (Value.int .i64 h.nx) := c3
            have f3 := HG9.out.frozen 3
            go_simp
            have hlo : w.heap.size ≤ g8 := by omega
            have HG11 : Hid (BlkH (w10.setCell ⟨g8, 3, none⟩ (.int .i64 43)) g8 (setNx 43 h)) := Lib.hid (BlkV.set_ HG9.out 3 (.int .i64 43))
            have hL11 : Low w (w10.setCell ⟨g8, 3, none⟩ (.int .i64 43)) := hL.setCell (p := ⟨g8, 3, none⟩) hlo _
            have HE11 := Lib.hid (HE.out.others (setCell_others w10 ⟨g8, 3, none⟩ (.int .i64 43)) (by show w.heap.size ≠ g8; omega))
            have HB11 := Lib.hid (HB9.out.others (fun k hk => setCell_others w10 ⟨g8, 3, none⟩ (.int .i64 43) k (by show k ≠ g8; omega)))
            refine hK _ _ hL11 ?_
            clear hK K c3 f3 HG9 hL HE HB9
            generalize w10.setCell ⟨g8, 3, none⟩ (.int .i64 43) = w11 at *
            refine walkS_read (v := _) rfl (by rfl) (by intro y hy; go_simp; try rfl) ?_
            simp only [Act.put, List.setIfInBounds_toArray, List.set_cons_zero, List.set_cons_succ]
            refine walkS_act rfl (by rfl) (fun K hK => ?_)
            refine wp_store_dst (.tmp 56) (.tmp 54) rfl g8 rfl v0 rfl (setNx 43 h) HG11.out HS.out HD.out v16 (fun HG12 => ?_)
            have hL12 := low_setMid hlo (cellsB v0) 21 w11 w hL11
            have HE12 := Lib.hid (HE11.out.others (setCells_others (g := g8) (cellsB v0) 21 w11) (show w.heap.size ≠ g8 by omega))
            have HB12 := Lib.hid (HB11.out.others (fun k hk => setCells_others (g := g8) (cellsB v0) 21 w11 k (show k ≠ g8 by omega)))
            refine hK _ _ hL12 ?_
            rw [← HVH.out] at HG12
            replace HG12 := Lib.hid HG12
            clear hK K HG11 hL11 HE11 HB11
            simp only [Act.put]
            generalize w11.setCells g8 21 (cellsB v0) = w12 at *
            refine walkS_done ?_
            clear hrv v16 va HVH hm1
            obtain ⟨h3, hh3⟩ : ∃ h3, h3 = viaH xs l := ⟨_, rfl⟩
            rw [← hh3] at HG12 HVO HVC HR2
            obtain ⟨b, o, rfl, hbl, hcc⟩ := HB.out.mem (by omega)
            obtain ⟨A2, hs2, hA2⟩ := slc_from b o n c 40 40 hc rfl h40
            have HB2 := Lib.hid (HB.out.cutFrom h40 hA2)
            have HS2 := Lib.hid hs2
            clear hs2 hA2 hcc hbl hh3
            go_wp2_with fail
            refine wp_region_planN (fun y => BlkH y g8 h3) (.rd 0 (.rd 1 (.rd 2 (.rd 3 (.act 4 (.act 5 (.rd 6 (.act 7 (.done)))))))))
              (by kernel_rfl) (by kernel_rfl) (by kernel_rfl) HG12.out ?_
            replace HE12 : Hid (BlkV w12.drew 39 w.heap.size [.int .i64 0]) := HE12
            replace HG12 : Hid (BlkH w12.drew g8 h3) := HG12
            replace HB12 := Lib.hid (HB12.out.others (w' := w12.drew) (fun _ _ => rfl))
            replace hL12 : Low w w12.drew := Below.drew hL12
            generalize w12.drew = w13 at *
            have i40 : (40 : Int) ≤ n := by omega
            iterate 4 (refine walkS_read (v := _) rfl (by rfl) (by intro y hy; first | exact exec_load_head rfl hy HVO.out.s HVO.out.d | exact slc_exec (HS2.out y) | (go_simp; try rfl)) ?_; simp only [Act.put, List.setIfInBounds_toArray, List.set_cons_zero, List.set_cons_succ])
            have hdl : Hid ((xs.drop 40).length = n - 40) := Lib.hid (by rw [List.length_drop, HLen.out])
            rw [HLen.out] at HR2
            obtain ⟨N, hN⟩ : ∃ N, N = n - 40 := ⟨_, rfl⟩
            obtain ⟨cN, hcN⟩ : ∃ N, N = c - 40 := ⟨_, rfl⟩
            rw [← hN] at HB2 HR2 hdl ⊢
            rw [← hcN]
            have hNb : z + N ≤ 65535 := by have := H15.out; omega
            clear HS2 hN hcN i40
            refine walkS_act rfl (by rfl) (fun K hK => ?_)
            go_simp
            refine hK _ _ (HG12.out.alloc _) ?_
            clear hK K
            have hl := Low.alloc w13 (.cells #[.slice A9 z c9, .slice A2 N cN] 22)
            have hrow := heap_alloc_new w13 (.cells #[.slice A9 z c9, .slice A2 N cN] 22 (0, 0))
            replace HG12 := Lib.hid (HG12.out.alloc (.cells #[.slice A9 z c9, .slice A2 N cN] 22))
            replace HE12 := Lib.hid (HE12.out.below hl HE12.out.lt)
            replace hL12 := hL12.trans hl
            have hb2 := HB2.out.below' hL12 hL12.size
            have hb9 := (HB12.out.bs (Nat.le_refl _)).below' hl hl.size
            clear hl HB12
            generalize w13.alloc (.cells #[.slice A9 z c9, .slice A2 N cN] 22) = w14 at *
            generalize w13.heap.size = g13 at *
            refine walkS_act rfl (by rfl) (fun K hK => ?_)
            go_simp
            have HFL := Lib.hid (show ([ps, xs.drop 40] : List (List Int)).flatten.length = z + N by simp only [List.flatten_cons, List.flatten_nil, List.append_nil, List.length_append]; rw [HZL.out, hdl.out])
            refine (packet_any h3 (some ⟨g13, 0, none⟩) 2 2 [(A9, z, c9), (A2, N, cN)] [ps, xs.drop 40] (z + N) w14 HVO.out HVC.out rfl (by omega) (Row.two hrow hb9 hb2) HFL.out hNb).mono ?_
            rintro e w15 ⟨A4, c4, rfl, ho4, hl4⟩
            go_simp
            have HG15 := Lib.hid (HG12.out.below hl4 HG12.out.lt)
            refine hK _ _ HG15.out ?_
            clear hK K HG12 hb2 hb9 hrow
            have HE15 := Lib.hid (HE12.out.below hl4 HE12.out.lt)
            have hL15 := hL12.trans hl4
            have hcap := ho4.cap
            simp only [maxLen] at hcap
            have hbs := ho4.bs (Nat.le_refl _)
            rw [List.flatten_cons, List.flatten_cons, List.flatten_nil, List.append_nil] at hbs
            have hln4 := hbs.len
            have HBS := Lib.hid hbs
            have HLN4 := Lib.hid hln4
            clear ho4 hl4 hbs hL12 HE12 hln4
            refine walkS_read (v := _) rfl (by rfl) (by intro y hy; go_simp; try rfl) ?_
            simp only [Act.put, List.setIfInBounds_toArray, List.set_cons_zero, List.set_cons_succ]
            refine walkS_act rfl (by rfl) (fun K hK => ?_)
            have cE := BlkE.c HE15.out
            have fE := BlkE.f HE15.out
            go_simp
            refine hK _ _ (HG15.out.far (p := ⟨w.heap.size, 0, none⟩) (by show g8 ≠ w.heap.size; omega) _) ?_
            clear hK K fE
            have HB16 := Lib.hid (HBS.out.setNum cE (.int .i64 0))
            have HE16 := Lib.hid (blkE HE15.out 0)
            have hL16 : Low w (w15.setCell ⟨w.heap.size, 0, none⟩ (.int .i64 0)) := hL15.setCell (p := ⟨w.heap.size, 0, none⟩) (Nat.le_refl _) _
            have hz16 : (w15.setCell ⟨w.heap.size, 0, none⟩ (.int .i64 0)).heap.size = w15.heap.size := by simp
            rw [← hz16] at HB16
            clear HE15 HBS HG15 cE hL15
            generalize w15.setCell ⟨w.heap.size, 0, none⟩ (.int .i64 0) = w16 at *
            refine walkS_done ?_
            go_wp2_with fail
            have hz17 : (w16.setCell ⟨w.heap.size, 0, none⟩ (.int .i64 0)).heap.size = w16.heap.size := by simp
            refine door_ret (by simp [go_sem]) (icatch_idle ⟨w.heap.size, 0, none⟩ _ w16 (BlkE.c HE16.out) (BlkE.f HE16.out)) _ (results_tmp_cell Tryz.results17 _ _ w.heap.size _ 0 rfl rfl (BlkE.c (blkE HE16.out 0))) ?_
            exact GivesR.of HR2.out HQ.out HLN4.out hcap.1 (by omega) (by rw [hz17]; exact HB16.out.setNum (BlkE.c HE16.out) _) (hL16.setCell (p := ⟨w.heap.size, 0, none⟩) (Nat.le_refl _) _)
        · have HQ := Lib.hid (insE_can (tl := os.map Od.v) HW.out HK2.out HMM.out (by rw [← HRR.out]; exact hcan))
          rw [← HRR.out] at HQ
          have HR2 := Lib.hid (show insL xs l (os.map Od.v) = [] by rw [HIL.out, if_neg (by rw [HQ.out]; exact hcan)])
          obtain ⟨er, her⟩ : ∃ er, er = canR r := ⟨_, rfl⟩
          rw [← her] at HQ hcan
          have HER := Lib.hid her
          clear her
          refine wp_region_planD (fun y => BlkH y g8 h) (fun cc a u => cc = [{ v := errV er, recovered := false }] ∧ a.tmps.getD 6 undef = .slice none 0 0 ∧ a.tmps.getD 7 undef = .pointer (some ⟨w.heap.size, 0, none⟩) ∧ a.defers = [{ target := .fn (.func 39) #[.pointer (some ⟨w.heap.size, 0, none⟩)], args := #[] }] ∧ BlkV u 39 w.heap.size [.int .i64 0] ∧ Low w u)
            (.rd 0 (.rd 1 (.rd 2 (.rd 3 (.rd 4 (.rd 5 (.rd 6 (.rd 8 (.act 7 (.rd 9 (.act 10 (.rd 11 (.rd 12 (.act 13 (.rd 14 (.done)))))))))))))))) (fun d => d != some 6 && d != some 7)
            (by kernel_rfl) (by kernel_rfl) (by kernel_rfl) (fun cc a d v u hd hr => by
              simp only [Bool.and_eq_true, bne_iff_ne, ne_eq] at hd
              exact ⟨hr.1, (put_getD a d v 6 hd.1).symm.trans hr.2.1, (put_getD a d v 7 hd.2).symm.trans hr.2.2.1, (put_defers a d v).symm.trans hr.2.2.2.1, hr.2.2.2.2.1, hr.2.2.2.2.2⟩) (by
              rintro cc ⟨tmps, df⟩ u ⟨rfl, h2, h3, rfl, hE, hl⟩
              refine door_panic er (by simp [go_sem]) (icatch_panic ⟨w.heap.size, 0, none⟩ _ er [] u (BlkE.c hE) (BlkE.f hE)) _ (results_tmp_cell Tryz.results17 _ _ w.heap.size _ er h2 h3 (BlkE.c (blkE hE er))) ?_
              rw [HR2.out]
              exact ⟨none, 0, by rw [HQ.out]; rfl, Nat.le_refl _, by omega, Bs.nil _ _ _, hl.setCell (p := ⟨w.heap.size, 0, none⟩) (Nat.le_refl _) _⟩) (by kernel_rfl) HG6.out ?_
          replace HE : Hid (BlkV w6.drew 39 w.heap.size [.int .i64 0]) := HE
          replace HG6 : Hid (BlkH w6.drew g8 h) := HG6
          replace hL : Low w w6.drew := Below.drew hL
          generalize w6.drew = w7 at *
          iterate 8 (refine walkS_read (v := _) rfl (by rfl) (by intro y hy; have e3 : y.cell? ⟨g8, 3, none⟩ = some (.int .i64 h.nx) := BlkV.cell hy 3; first | exact exec_load_mid rfl (BlkV.atDst hy HS.out) HD.out | (go_simp; try rfl)) ?_; simp only [Act.put, List.setIfInBounds_toArray, List.set_cons_zero, List.set_cons_succ])
          refine walkS_act rfl (by rfl) (fun K hK => ?_)
          go_simp
          refine (segments_of h.d ⟨bv, ov, none⟩ m vc l w7 HD.out vd hM0 hM9 (HVI.out.below' hL hL.size)).mono ?_
          rintro e w8 ⟨A8, c8, rfl, ho8, hl8⟩
          go_simp
          have HG8 := Lib.hid (HG6.out.below hl8 HG6.out.lt)
          refine hK _ _ HG8.out ?_
          clear hK K
          replace HE := Lib.hid (HE.out.below hl8 HE.out.lt)
          replace hL := hL.trans hl8
          have HA8 := Lib.hid (ho8.lies (Nat.le_refl _))
          clear hl8 ho8 HG6
          have hbv2 := run_build_via h.nx (m : Nat) A8 tA (m + 1) c8 tn tc
          refine walkS_read (v := _) rfl (by rfl) (by intro y hy; have hbv3 := hbv2 y; go_simp; try rfl) ?_
          simp only [Act.put, List.setIfInBounds_toArray, List.set_cons_zero, List.set_cons_succ]
          obtain ⟨sp, hsp⟩ : ∃ sp : Sr, sp = ⟨h.nx, (m : Nat), 0, 0, A8, m + 1, c8, (l ++ [h.d]).reverse, tA, tn, tc, os⟩ := ⟨_, rfl⟩
          have HSV := Lib.hid (show Value.agg #[.int .i64 h.nx, .int .i64 (m : Nat), .int .i64 0, .int .i64 0, .slice A8 (m + 1) c8, .slice tA tn tc] = srV sp by rw [hsp]; rfl)
          have HSR := Lib.hid (show sp.v = r by rw [hsp, HR.out]; rfl)
          have HSok := Lib.hid (show sp.ok w8 w8.heap.size by rw [hsp]; exact ⟨hnx, by unfold i64ok; dsimp only; omega, by unfold i64ok; dsimp only; omega, by unfold i64ok; dsimp only; omega, by dsimp only; omega, HA8.out, ht, HP.out.below' hL hL.size⟩)
          clear hsp
          rw [HSV.out]
          refine walkS_act rfl (by rfl) (fun K hK => ?_)
          go_simp
          refine (srput_any sp w8 HSok.out).mono ?_
          rintro e w9 ⟨A9, c9, rfl, ho9, hl9⟩
          rw [HSR.out] at ho9 ⊢
          rw [← HER.out]
          have HG9 := Lib.hid (HG8.out.below hl9 HG8.out.lt)
          go_simp
          refine hK _ _ HG9.out ?_
          clear hK K
          replace HE := Lib.hid (HE.out.below hl9 HE.out.lt)
          replace hL := hL.trans hl9
          iterate 2 (refine walkS_read (v := _) rfl (by rfl) (by intro y hy; go_simp; try rfl) ?_; simp only [Act.put, List.setIfInBounds_toArray, List.set_cons_zero, List.set_cons_succ])
          refine walkS_act rfl (by rfl) (fun K hK => ?_)
          go_simp
          refine (mustb_no A9 _ c9 er hcan w9).mono ?_
          rintro e w9 ⟨rfl, rfl⟩
          unfold Thrown
          go_simp
          exact ⟨rfl, rfl, rfl, rfl, HE.out, hL⟩
  · refine (whole_no A n c xs w2 (HB.out.below' hL hL.size) _ rfl hw hn hc hc2).mono ?_
    rintro e w3 ⟨rfl, hl3⟩
    replace hL := Low.trans hL hl3
    replace HE := Lib.hid (HE.out.below hl3 HE.out.lt)
    have HQ := Lib.hid (insE_whole (l := l) (tl := os.map Od.v) hw)
    have HR2 := Lib.hid (show insL xs l (os.map Od.v) = [] by rw [HIL.out, if_neg (by rw [HQ.out]; exact hw)])
    obtain ⟨er, her⟩ : ∃ er, er = wholeE xs := ⟨_, rfl⟩
    rw [← her] at hw ⊢ HQ
    clear her HIL
    unfold Thrown
    go_wp2_with fail
    rw [HR2.out]
    refine door_panic er (by simp [go_sem]) (icatch_panic ⟨w.heap.size, 0, none⟩ _ er [] w3 (BlkE.c HE.out) (BlkE.f HE.out)) _ (results_tmp_cell Tryz.results17 _ _ w.heap.size _ er rfl rfl (BlkE.c (blkE HE.out er))) ?_
    exact ⟨none, 0, by rw [HQ.out]; rfl, Nat.le_refl _, by omega, Bs.nil _ _ _, hL.setCell (p := ⟨w.heap.size, 0, none⟩) (Nat.le_refl _) _⟩
end
end Go.Proofs.YtdpbhhoabnmbpaaGreat
