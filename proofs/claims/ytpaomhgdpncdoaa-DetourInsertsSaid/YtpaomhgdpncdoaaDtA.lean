/- The small calls by which detour gives up and is caught: demand, must, reason, and what each deferred closure does. No condition. -/
import Derived.Test.YtpaomhgdpncdoaaVals
import Derived.Tactics2
import Derived.Defers
import Derived.Recover
import Derived.Laws.Pointers
import Derived.WalkLawsBesides
namespace Go.Proofs.Ytpaomhgdpncdoaa
open Go.RowKit
set_option linter.unusedVariables false

/-- the error that is thrown, and a call that gives up with it -/
def errV (er : Int) : Value := .iface 27 (.int .i64 er)
def Thrown (er : Int) : Ending := .panicked [{ v := errV er, recovered := false }]

theorem results_nilD {P : Program} {fn : Func} (h : fn.results = #[]) (tmps : Array Value) (w : World) : (results fn tmps).run P w = .ok (.tuple #[]) w := by
  simp [results, h]
theorem demand_yes (er : Int) (w : World) : Calls Try.prog 29 #[.bool true, .int .i64 er] w fun e w' => e = .returned (.tuple #[]) ∧ w' = w := by
  go_enter Try.func29, Try.ntmps29
  go_wp2
  exact bodyPost_end (results_nilD Try.results29 _ _) rfl ⟨rfl, rfl⟩
theorem demand_no (er : Int) (w : World) : Calls Try.prog 29 #[.bool false, .int .i64 er] w fun e w' => e = Thrown er ∧ w' = w := by
  go_enter Try.func29, Try.ntmps29
  go_wp2
  exact ⟨rfl, rfl, rfl⟩
theorem mustb_yes (A : Option Addr) (n c : Nat) (w : World) : Calls Try.prog 31 #[.slice A n c, .int .i64 0] w fun e w' => e = .returned (.slice A n c) ∧ w' = w := by
  go_enter Try.func31, Try.ntmps31
  go_wp2_with fail
  refine (demand_yes 0 w).mono ?_
  rintro e w' ⟨rfl, rfl⟩
  go_wp2_with fail
  go_ret
  exact ⟨rfl, rfl⟩
theorem mustb_no (A : Option Addr) (n c : Nat) (er : Int) (he : er ≠ 0) (w : World) : Calls Try.prog 31 #[.slice A n c, .int .i64 er] w fun e w' => e = Thrown er ∧ w' = w := by
  go_enter Try.func31, Try.ntmps31
  have hd : (er == 0) = false := by simpa using he
  go_wp2_with fail
  refine (demand_no er w).mono ?_
  rintro e w' ⟨rfl, rfl⟩
  unfold Thrown
  go_wp2_with fail
  exact ⟨rfl, rfl, rfl⟩
set_option maxRecDepth 100000 in
theorem reason_err (er : Int) (w : World) : Calls Try.prog 20 #[errV er] w fun e w' => e = .returned (.int .i64 er) ∧ w' = w := by
  unfold errV
  have hta : ∀ u : World, (Instr.typeAssert (.iface 27 (.int .i64 er)) 20 27 true).run Try.prog u = .ok (.tuple #[.int .i64 er, .bool true]) u := fun _ => by kernel_rfl
  go_enter Try.func20, Try.ntmps20
  go_wp2
  go_ret
  exact ⟨rfl, rfl⟩
set_option maxRecDepth 100000 in
theorem reason_nil (w : World) : Calls Try.prog 20 #[.nilIface] w fun e w' => e = .returned (.int .i64 0) ∧ w' = w := by
  have hta : ∀ u : World, (Instr.typeAssert .nilIface 20 27 true).run Try.prog u = .ok (.tuple #[.int .i64 0, .bool false]) u := fun _ => by kernel_rfl
  go_enter Try.func20, Try.ntmps20
  go_wp2
  go_ret
  exact ⟨rfl, rfl⟩
/-- what the deferred call of Header does: where the call gives up, the error is told; else 0 -/
theorem hcatch_panic (p : Addr) (x : Value) (er : Int) (older : List PanicEntry) (w : World) (hc : w.cell? p = some x) (hz : w.frozen? p = false) :
    CallsD Try.prog 19 #[.pointer (some p)] (.panicking ({ v := errV er, recovered := false } :: older)) w fun e u' w' =>
      e = .returned (.tuple #[]) ∧ u' = .panicking ({ v := errV er, recovered := true } :: older) ∧ w' = w.setCell p (.int .i64 er) := by
  refine callsD_of_wpS Try.func19 rfl fun c₀ cs hu => ?_
  apply wpS_region
  simp [wpOpsS, go_sem, recoverD, hu, Try.ntmps19]
  refine (reason_err er w).mono ?_
  rintro e w' ⟨rfl, rfl⟩
  simp [hc, hz, bodyPostS, results, Try.results19, go_sem]
theorem hcatch_idle (p : Addr) (x : Value) (w : World) (hc : w.cell? p = some x) (hz : w.frozen? p = false) :
    CallsD Try.prog 19 #[.pointer (some p)] .returning w fun e u' w' =>
      e = .returned (.tuple #[]) ∧ u' = .returning ∧ w' = w.setCell p (.int .i64 0) := by
  refine callsD_of_wpS Try.func19 rfl fun c₀ cs hu => ?_
  apply wpS_region
  simp [wpOpsS, go_sem, recoverD, hu, Try.ntmps19]
  refine (reason_nil w).mono ?_
  rintro e w' ⟨rfl, rfl⟩
  cases c₀
  simp_all [bodyPostS, results, Try.results19, go_sem]
/-- what the deferred call of Remove does: where the call gives up, the error is told; else 0 -/
theorem rcatch_panic (p : Addr) (x : Value) (er : Int) (older : List PanicEntry) (w : World) (hc : w.cell? p = some x) (hz : w.frozen? p = false) :
    CallsD Try.prog 24 #[.pointer (some p)] (.panicking ({ v := errV er, recovered := false } :: older)) w fun e u' w' =>
      e = .returned (.tuple #[]) ∧ u' = .panicking ({ v := errV er, recovered := true } :: older) ∧ w' = w.setCell p (.int .i64 er) := by
  refine callsD_of_wpS Try.func24 rfl fun c₀ cs hu => ?_
  apply wpS_region
  simp [wpOpsS, go_sem, recoverD, hu, Try.ntmps24]
  refine (reason_err er w).mono ?_
  rintro e w' ⟨rfl, rfl⟩
  simp [hc, hz, bodyPostS, results, Try.results24, go_sem]
theorem rcatch_idle (p : Addr) (x : Value) (w : World) (hc : w.cell? p = some x) (hz : w.frozen? p = false) :
    CallsD Try.prog 24 #[.pointer (some p)] .returning w fun e u' w' =>
      e = .returned (.tuple #[]) ∧ u' = .returning ∧ w' = w.setCell p (.int .i64 0) := by
  refine callsD_of_wpS Try.func24 rfl fun c₀ cs hu => ?_
  apply wpS_region
  simp [wpOpsS, go_sem, recoverD, hu, Try.ntmps24]
  refine (reason_nil w).mono ?_
  rintro e w' ⟨rfl, rfl⟩
  cases c₀
  simp_all [bodyPostS, results, Try.results24, go_sem]
/-- what the deferred call of Advance does: where the call gives up, the error is told; else 0 -/
theorem acatch_panic (p : Addr) (x : Value) (er : Int) (older : List PanicEntry) (w : World) (hc : w.cell? p = some x) (hz : w.frozen? p = false) :
    CallsD Try.prog 28 #[.pointer (some p)] (.panicking ({ v := errV er, recovered := false } :: older)) w fun e u' w' =>
      e = .returned (.tuple #[]) ∧ u' = .panicking ({ v := errV er, recovered := true } :: older) ∧ w' = w.setCell p (.int .i64 er) := by
  refine callsD_of_wpS Try.func28 rfl fun c₀ cs hu => ?_
  apply wpS_region
  simp [wpOpsS, go_sem, recoverD, hu, Try.ntmps28]
  refine (reason_err er w).mono ?_
  rintro e w' ⟨rfl, rfl⟩
  simp [hc, hz, bodyPostS, results, Try.results28, go_sem]
theorem acatch_idle (p : Addr) (x : Value) (w : World) (hc : w.cell? p = some x) (hz : w.frozen? p = false) :
    CallsD Try.prog 28 #[.pointer (some p)] .returning w fun e u' w' =>
      e = .returned (.tuple #[]) ∧ u' = .returning ∧ w' = w.setCell p (.int .i64 0) := by
  refine callsD_of_wpS Try.func28 rfl fun c₀ cs hu => ?_
  apply wpS_region
  simp [wpOpsS, go_sem, recoverD, hu, Try.ntmps28]
  refine (reason_nil w).mono ?_
  rintro e w' ⟨rfl, rfl⟩
  cases c₀
  simp_all [bodyPostS, results, Try.results28, go_sem]
/-- what the deferred call of Insert does: where the call gives up, the error is told; else 0 -/
theorem icatch_panic (p : Addr) (x : Value) (er : Int) (older : List PanicEntry) (w : World) (hc : w.cell? p = some x) (hz : w.frozen? p = false) :
    CallsD Try.prog 36 #[.pointer (some p)] (.panicking ({ v := errV er, recovered := false } :: older)) w fun e u' w' =>
      e = .returned (.tuple #[]) ∧ u' = .panicking ({ v := errV er, recovered := true } :: older) ∧ w' = w.setCell p (.int .i64 er) := by
  refine callsD_of_wpS Try.func36 rfl fun c₀ cs hu => ?_
  apply wpS_region
  simp [wpOpsS, go_sem, recoverD, hu, Try.ntmps36]
  refine (reason_err er w).mono ?_
  rintro e w' ⟨rfl, rfl⟩
  simp [hc, hz, bodyPostS, results, Try.results36, go_sem]
theorem icatch_idle (p : Addr) (x : Value) (w : World) (hc : w.cell? p = some x) (hz : w.frozen? p = false) :
    CallsD Try.prog 36 #[.pointer (some p)] .returning w fun e u' w' =>
      e = .returned (.tuple #[]) ∧ u' = .returning ∧ w' = w.setCell p (.int .i64 0) := by
  refine callsD_of_wpS Try.func36 rfl fun c₀ cs hu => ?_
  apply wpS_region
  simp [wpOpsS, go_sem, recoverD, hu, Try.ntmps36]
  refine (reason_nil w).mono ?_
  rintro e w' ⟨rfl, rfl⟩
  cases c₀
  simp_all [bodyPostS, results, Try.results36, go_sem]
end Go.Proofs.Ytpaomhgdpncdoaa
