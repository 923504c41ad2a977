/- Arguments opened: a routing header (four ints, a slice of addresses, a slice of parts). No condition. -/
import Derived.Test.YtdpbhhoabnmbpaaGreatLawKitT
import Derived.Test.YtdpbhhoabnmbpaaGreatJKit
import Derived.Test.YtdpbhhoabnmbpaaGreatJSrA
set_option maxRecDepth 100000
namespace Go.Proofs.YtdpbhhoabnmbpaaGreat
open Go.ChangeShapes Go.WideShapes Go.ChangeAt Go.RowKit

section
variable {H : Type} {enc : TypeId × Value → H}
/-- the one cell of a slice of addresses -/
theorem trod_addrs {W : World} {fuel : Nat} {cs : List Value} {x : DataW H × List MemPlace} (hf : DataW.trod enc Tryz.prog W 0 (fun _ => true) true fuel 27 cs = some x) (hwt : ∀ y ∈ x.1.weights Tryz.prog 27, y ≤ reachBytes) :
    ∃ (A : Option Addr) (n c : Nat) (l : List (List Int)), cs = [.slice A n c] ∧ n ≤ 140737488351232 ∧ As W W.heap.size A n l := by
  have hc2 : Tryz.prog.cellsOf 24 = 16 := by kernel_rfl
  have hb3 : Tryz.prog.bytesOf 24 = 16 := by kernel_rfl
  rcases Go.Deep.open_slice Tryz.underlying27 hf with ⟨hcs, _⟩ | ⟨a, n, c, m, k, D, Pl, hcs, _, hl, hm, hmm, hx, hi⟩
  · exact ⟨none, 0, 0, [], hcs, Nat.zero_le _, As.nil _ _ _⟩
  · simp only [if_true] at hmm
    subst hmm
    subst hx
    rw [hc2] at hi
    have hbig : n ≤ 140737488351232 := by
      have := hwt ((((List.range n).map D).length + ((List.range (m - n)).map fun j => D (n + j)).length) * Tryz.prog.bytesOf 24) (by simp only [DataW.weights, Tryz.underlying27]; exact List.mem_cons_self)
      rw [hb3] at this
      simp only [List.length_map, List.length_range, reachBytes] at this
      omega
    have each : ∀ i, i < n → ∃ s : List Int, (s.length = 16 ∧ AllB s) ∧ ∀ j, j < 16 → W.cell? (a.add (i * 16 + j)) = some (.int .u8 (s.getD j 0)) := fun i hin => by
      obtain ⟨cs', hcl, ht⟩ := hi i (by omega)
      obtain ⟨_, hlen, hcell⟩ := World.cells?_some hcl
      obtain ⟨s, hs, rfl, ha⟩ := trod_addr hlen ht
      refine ⟨s, ⟨hs, ha⟩, fun j hj => ?_⟩
      have c0 := hcell j (by omega)
      rw [Go.Deep.add_add] at c0
      rw [c0, ← cellsB_get (by omega)]
    obtain ⟨f, hf2⟩ := Go.Deep.choose_lt each
    have hall : AllA ((List.range n).map f) := fun q hq => by
      obtain ⟨i, hin, rfl⟩ := List.mem_map.1 hq
      exact (hf2 i (by simpa using hin)).1
    have hget : ∀ i, i < n → ((List.range n).map f).getD i zero16 = f i := fun i hin => by simp [List.getD, hin]
    refine ⟨some a, n, _, (List.range n).map f, hcs, hbig, by simp, hall, fun hn => ?_⟩
    have h0 := (hf2 0 hn).2 0 (by omega)
    obtain ⟨b, o, s⟩ := a
    obtain rfl : s = none := by simpa [Addr.add] using World.cell?_spot h0
    refine ⟨b, o, rfl, World.block_lt_of_cell? _ _ (by simpa [Addr.add] using h0), fun j hj => ?_⟩
    have h1 := (hf2 (j / 16) (by omega)).2 (j % 16) (by omega)
    rw [Addr.add_lit] at h1
    have e1 : j / 16 * 16 + j % 16 = j := by omega
    have h2 := flatA_get hall (i := j / 16) (j := j % 16) (by simp; omega) (by omega)
    rw [hget _ (by omega), e1] at h2
    rw [e1] at h1
    rw [h1, h2]
end
end Go.Proofs.YtdpbhhoabnmbpaaGreat
