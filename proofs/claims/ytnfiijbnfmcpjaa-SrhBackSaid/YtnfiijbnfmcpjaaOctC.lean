/- What octets.Join answers: all lists, one behind the other, in a new block. Condition: together they are at most 2^48 bytes long. -/
import Derived.Test.YtnfiijbnfmcpjaaOctB
namespace Go.Proofs.Ytnfiijbnfmcpjaa
open Go.RowKit

theorem info5 : (Try.prog.info? 5).map (fun i => (i.zero, i.size, i.bytes)) = some (some (.int .u8 0), 1, 1) := by kernel_rfl
theorem size5 : (Try.prog.info? 5).map (·.size) = some 1 := by kernel_rfl

/-- lists of bytes: the slices, and what each holds -/
structure Row (w : World) (A : Option Addr) (vs : List (Option Addr × Nat × Nat)) (yss : List (List Int)) : Prop where
  len : yss.length = vs.length
  each : ∀ i, i < vs.length → Bs w w.heap.size (vs.getD i (none, 0, 0)).1 (vs.getD i (none, 0, 0)).2.1 (yss.getD i [])
  mem : 0 < vs.length → ∃ b o, A = some ⟨b, o, none⟩ ∧ b < w.heap.size ∧ ∀ i, i < vs.length → w.cell? ⟨b, o + i, none⟩ = some (.slice (vs.getD i (none, 0, 0)).1 (vs.getD i (none, 0, 0)).2.1 (vs.getD i (none, 0, 0)).2.2)

/-- the first k lists, joined -/
def upto (yss : List (List Int)) (k : Nat) : List Int := (yss.take k).flatten
theorem upto_succ (yss : List (List Int)) (k : Nat) (h : k < yss.length) : upto yss (k + 1) = upto yss k ++ yss.getD k [] := by
  unfold upto
  rw [List.take_succ_eq_append_getElem h, List.flatten_append]
  simp [List.getD, h]
theorem upto_all (yss : List (List Int)) (k : Nat) (h : yss.length ≤ k) : upto yss k = yss.flatten := by
  unfold upto; rw [List.take_of_length_le h]
theorem upto_le (yss : List (List Int)) (k : Nat) : (upto yss k).length ≤ yss.flatten.length := by
  have h : yss.flatten = (yss.take k).flatten ++ (yss.drop k).flatten := by rw [← List.flatten_append, List.take_append_drop]
  rw [h, List.length_append]; unfold upto; omega

/-- the row in the making: what is laid, and noughts -/
def laidRow (xs : List Int) (N : Nat) : List Value := cellsB xs ++ List.replicate (N - xs.length) (.int .u8 0)
theorem laidRow_length (xs : List Int) (N : Nat) (h : xs.length ≤ N) : (laidRow xs N).length = N := by simp [laidRow, cellsB_length]; omega
theorem laidRow_splice (xs ys : List Int) (N : Nat) : splice (laidRow xs N) xs.length (cellsB ys) = laidRow (xs ++ ys) N := by
  unfold splice laidRow
  rw [cellsB_append, List.append_assoc]
  congr 1
  · rw [List.take_left' (by rw [cellsB_length])]
  · congr 1
    rw [List.drop_append, List.drop_eq_nil_of_le (by rw [cellsB_length, cellsB_length]; omega), List.nil_append, List.drop_replicate, cellsB_length, cellsB_length]
    congr 1
    simp; omega
theorem laidRow_full (xs : List Int) : laidRow xs xs.length = cellsB xs := by simp [laidRow]
theorem made_laid (N : Nat) : madeCells #[.int .u8 0] N = (laidRow [] N).toArray := by
  apply Array.ext
  · simp [madeCells, laidRow, cellsB]
  · intro i h1 h2
    simp [madeCells, laidRow, cellsB, Nat.mod_one]

set_option maxHeartbeats 800000 in
theorem join_any (A : Option Addr) (m c : Nat) (vs : List (Option Addr × Nat × Nat)) (yss : List (List Int)) (N : Nat) (w : World) (hm : vs.length = m) (hm2 : m ≤ 140737488355328) (hr : Row w A vs yss)
    (hN : yss.flatten.length = N) (hbig : N ≤ 281474976710656) :
    Calls Try.prog 40 #[.slice A m c] w fun e w' => e = .returned (.slice (some ⟨w.heap.size, 0, none⟩) N N) ∧ w'.heap[w.heap.size]? = some (.cells (cellsB yss.flatten).toArray 5 (0, 0)) ∧ Below w.heap.size w w' := by
  obtain ⟨i0, hi, hz0, hz1, hz2⟩ := info_parts info5
  have hmk : ∀ u : World, (Instr.makeSlice 28 (.int .i64 (N : Int)) (.int .i64 (N : Int))).run Try.prog u =
      .ok (.slice (some ⟨u.heap.size, 0, none⟩) N N) (u.alloc (.cells (madeCells #[.int .u8 0] N) 5)) := fun u => by
    have h := run_make (P := Try.prog) u 28 5 i0 (.int .u8 0) Try.underlying28 hi hz0 .i64 .i64 (N : Int) (N : Int) (by omega) (Int.le_refl _) (by rw [hz2]; omega) (by omega)
    simpa [hz1, Value.cells] using h
  have HN := Lib.hid hN
  have HM := Lib.hid hm
  clear hN hm
  go_enter Try.func40, Try.ntmps40
  go_wp2
  go_loop [3, 12] (fun s i => ∃ k : Nat, k ≤ m ∧ i = .int .i64 k ∧ s = .int .i64 ((upto yss k).length : Nat)) (fun _ i => m - (intOf i).toNat)
  case atStart => exact ⟨0, Nat.zero_le _, rfl, rfl⟩
  case round =>
    obtain ⟨k, hk, rfl, rfl⟩ := hrel
    by_cases hlt : k < m
    · obtain ⟨b, o, rfl, _, hc⟩ := hr.mem (by rw [HM.out]; omega)
      obtain ⟨a, n, cc, hve⟩ : ∃ a n cc, vs.getD k (none, 0, 0) = (a, n, cc) := ⟨_, _, _, rfl⟩
      have h0 := hc k (by rw [HM.out]; omega)
      have hv := hr.each k (by rw [HM.out]; omega)
      rw [hve] at h0 hv
      dsimp only at h0 hv
      have hle : (upto yss (k + 1)).length = (upto yss k).length + n := by rw [upto_succ yss k (by rw [hr.len, HM.out]; omega), List.length_append, hv.len]
      have HL := Lib.hid hle
      have hb1 : (upto yss k).length + n ≤ 281474976710656 := by rw [← hle]; have := HN.out; have := upto_le yss (k + 1); omega
      clear hc hv hle hve
      go_wp2
      go_round
      case rel => exact ⟨k + 1, by omega, by go_num, by rw [HL.out]; go_num⟩
      case measure => simp [intOf]; omega
    · obtain rfl : k = m := by omega
      have hal : (upto yss k).length = N := by rw [upto_all yss k (by rw [hr.len, HM.out]; omega)]; exact HN.out
      rw [hal]
      clear hal
      rw [made_laid] at hmk
      obtain ⟨Z, hZ⟩ : ∃ Z, Z = laidRow [] N := ⟨_, rfl⟩
      rw [← hZ] at hmk
      have HZ := Lib.hid hZ
      clear hZ
      go_wp2
      go_loopw [7, 25] (fun s i wr => ∃ j : Nat, j ≤ k ∧ i = .int .i64 j ∧ s = .int .i64 ((upto yss j).length : Nat) ∧ Hid (wr.heap[w.heap.size]? = some (.cells (laidRow (upto yss j) N).toArray 5 (0, 0))) ∧ Below w.heap.size w wr) (fun _ i _ => k - (intOf i).toNat)
      case atStart =>
        refine ⟨0, Nat.zero_le _, rfl, rfl, ?_, (Below.refl _ _).alloc (Nat.le_refl _) _⟩
        have := heap_alloc_new w (.cells Z.toArray 5 (0, 0))
        rw [HZ.out] at this ⊢
        exact this
      case round =>
        obtain ⟨j, hj, rfl, rfl, HG, hB⟩ := hrel
        by_cases hlt : j < k
        · obtain ⟨b, o, rfl, hbw, hc⟩ := hr.mem (by rw [HM.out]; omega)
          obtain ⟨a, n, cc, hve⟩ : ∃ a n cc, vs.getD j (none, 0, 0) = (a, n, cc) := ⟨_, _, _, rfl⟩
          have h0 := hc j (by rw [HM.out]; omega)
          have hv := hr.each j (by rw [HM.out]; omega)
          rw [hve] at h0 hv
          dsimp only at h0 hv
          have hv2 := hv.below hB
          rw [← hB.cell (p := ⟨b, o + j, none⟩) hbw] at h0
          have hle : (upto yss (j + 1)).length = (upto yss j).length + n := by rw [upto_succ yss j (by rw [hr.len, HM.out]; omega), List.length_append, hv.len]
          have HL := Lib.hid hle
          have HS := Lib.hid (upto_succ yss j (by rw [hr.len, HM.out]; omega))
          have hb1 : (upto yss j).length + n ≤ N := by rw [← hle]; have := HN.out; have := upto_le yss (j + 1); omega
          have hb0 : (upto yss j).length ≤ N := by omega
          clear hc hv hle hve
          obtain ⟨ys, hys⟩ : ∃ ys, ys = yss.getD j [] := ⟨_, rfl⟩
          rw [← hys] at hv2 HS
          clear hys
          have hsrc := Lib.hid hv2.src
          have hlen := Lib.hid hv2.len
          obtain ⟨cs, hcs⟩ : ∃ cs, cs = cellsB ys := ⟨_, rfl⟩
          rw [← hcs] at hsrc
          have HCS := Lib.hid hcs
          have HCO := Lib.hid (cellsB_one ys)
          rw [← hcs] at HCO
          clear hcs
          have hcl : Hid (cs.length = n) := by rw [HCS.out, cellsB_length]; exact hlen.out
          obtain ⟨R, hR⟩ : ∃ R, R = laidRow (upto yss j) N := ⟨_, rfl⟩
          rw [← hR] at HG
          have HRL := Lib.hid (laidRow_length (upto yss j) N hb0)
          rw [← hR] at HRL
          have HSP := Lib.hid (laidRow_splice (upto yss j) ys N)
          rw [← hR, ← HCS.out, ← HS.out] at HSP
          have HR := Lib.hid hR
          clear hR
          obtain ⟨s0, hs0⟩ : ∃ s0, s0 = (upto yss j).length := ⟨_, rfl⟩
          rw [← hs0] at HL hb1 hb0 HSP ⊢
          have HS0 := Lib.hid hs0
          clear hs0
          have hb2 : s0 + n ≤ 281474976710656 := by omega
          by_cases hcap : s0 = N
          · subst hcap
            obtain rfl : n = 0 := by omega
            go_wp2_with (with_reducible refine wpList_copy_splice rfl (.tmp 32) (.tmp 33) 28 28 rfl 5 Try.underlying28 size5 _ _ _ _ _ _ rfl rfl w.heap.size s0 R 5 HG.out cs (by rw [hcl.out]; exact (Nat.min_eq_left (by omega)).symm) (fun hp => absurd hp (by rw [hcl.out]; omega)) (by rw [hcl.out, HRL.out]; omega) HCO.out w.heap.size w hB (Nat.le_refl _) ?_; intro w2 HG2 hB2; rw [HSP.out] at HG2; rw [hcl.out])
            go_roundw
            case rel => exact ⟨j + 1, by omega, by go_num, by rw [HL.out]; go_num, HG2, hB2⟩
            case measure => simp [intOf]; omega
          · have hcap' : ¬ N = s0 := fun h => hcap h.symm
            clear hcap
            go_wp2_with (with_reducible refine wpList_copy_splice rfl (.tmp 32) (.tmp 33) 28 28 rfl 5 Try.underlying28 size5 _ _ _ _ _ _ rfl rfl w.heap.size s0 R 5 HG.out cs (by rw [hcl.out]; exact (Nat.min_eq_left (by omega)).symm) (fun hp => ⟨rfl, hsrc.out hp⟩) (by rw [hcl.out, HRL.out]; omega) HCO.out w.heap.size w hB (Nat.le_refl _) ?_; intro w2 HG2 hB2; rw [HSP.out] at HG2; rw [hcl.out])
            go_roundw
            case rel => exact ⟨j + 1, by omega, by go_num, by rw [HL.out]; go_num, HG2, hB2⟩
            case measure => simp [intOf]; omega
        · obtain rfl : j = k := by omega
          have HA := Lib.hid (show laidRow (upto yss j) N = cellsB yss.flatten by rw [upto_all yss j (by rw [hr.len, HM.out]; omega), ← HN.out, laidRow_full])
          go_wp2
          go_ret
          exact ⟨rfl, by rw [← HA.out]; exact HG.out, hB⟩
end Go.Proofs.Ytnfiijbnfmcpjaa
