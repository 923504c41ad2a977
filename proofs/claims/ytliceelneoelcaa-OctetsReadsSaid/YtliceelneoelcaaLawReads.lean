/- The law OctetsReads answers true for every input. Condition: the slice is at most 2^47 bytes long. -/
import Derived.Test.YtliceelneoelcaaOctU
namespace Go.Proofs.Ytliceelneoelcaa
open Go.RowKit
set_option linter.unusedVariables false

set_option maxHeartbeats 1000000 in
set_option maxRecDepth 100000 in
theorem reads_walk (A : Option Addr) (n c : Nat) (p k : Int) (xs : List Int) (w : World) (hn : n ≤ 140737488355328) (hc : n ≤ c) (hc2 : c ≤ 9223372036854775807) (hp : i64ok p) (hk : i64ok k) (hb : Bs w w.heap.size A n xs) :
    Calls Try.prog 3 #[.slice A n c, .int .i64 p, .int .i64 k] w fun e w' => e = .returned (.bool true) ∧ Below w.heap.size w w' := by
  go_enter Try.func3, Try.ntmps3
  go_wp2_with fail
  refine (u16_u A n c p xs w hn hp hb).mono ?_
  rintro e w1 ⟨rfl, hB1⟩
  go_wp2_with fail
  refine (r16_u A n c p xs w1 hn hp (hb.below' hB1 hB1.size)).mono ?_
  rintro e w2 ⟨rfl, hB⟩
  have hB2 := hB1.trans (hB.mono hB1.size)
  clear hB1 hB
  go_wp2_with fail
  refine (u32_u A n c p xs w2 hn hp (hb.below' hB2 hB2.size)).mono ?_
  rintro e w3 ⟨rfl, hB⟩
  have hB3 := hB2.trans (hB.mono hB2.size)
  clear hB2 hB
  go_wp2_with fail
  refine (r32_u A n c p xs w3 hn hp (hb.below' hB3 hB3.size)).mono ?_
  rintro e w4 ⟨rfl, hB⟩
  have hB4 := hB3.trans (hB.mono hB3.size)
  clear hB3 hB
  go_wp2_with fail
  refine (cut_u A n c p k xs w4 hn hc hc2 hp hk (hb.below' hB4 hB4.size)).mono ?_
  rintro e w5 ⟨A5, k5, c5, rfl, hb5, hB⟩
  have hB5 := hB4.trans (hB.mono hB4.size)
  clear hB4 hB
  go_wp2_with fail
  refine (rcut_u A n c p k xs w5 hn hc hc2 hp hk (hb.below' hB5 hB5.size)).mono ?_
  rintro e w6 ⟨A6, k6, c6, rfl, hb6, hB⟩
  have hB6 := hB5.trans (hB.mono hB5.size)
  have hb5' := hb5.below' hB hB.size
  clear hB5 hB hb5
  have hc5 := conv_bs (c := c5) hb5'
  have hc6 := conv_bs (c := c6) hb6
  clear hb5' hb6
  go_wp2_with fail
  clear hc5 hc6
  refine (zeros_any A n c xs w6 hn (hb.below' hB6 hB6.size)).mono ?_
  rintro e w7 ⟨rfl, rfl⟩
  go_wp2_with fail
  refine (rzeros_any A n c xs w6 hn (hb.below' hB6 hB6.size)).mono ?_
  rintro e w7 ⟨rfl, rfl⟩
  go_wp2_with fail
  refine (lives_any w6).mono ?_
  rintro e w7 ⟨rfl, hB⟩
  have hB7 := hB6.trans (hB.mono hB6.size)
  clear hB6 hB
  go_wp2
  go_ret
  exact ⟨rfl, hB7⟩
end Go.Proofs.Ytliceelneoelcaa
