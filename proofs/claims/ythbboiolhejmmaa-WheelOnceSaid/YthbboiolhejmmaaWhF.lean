/- Stage 23: the walk of WheelOnce, given the program's own wheel (wip/tools/genwhf.py prints it). Conditions: each argument lies as the form says. -/
import Derived.Test.YthbboiolhejmmaaWhD
import Derived.Test.YthbboiolhejmmaaTr3
set_option maxRecDepth 100000
namespace Go.Proofs.Ythbboiolhejmmaa
open Go.RowKit
set_option linter.unusedVariables false

theorem oneW_count (l : List (Int × Int)) (now q id : Int) : (oneW l now q).count id = if q = id then (oneW l now q).length else 0 := by
  unfold oneW
  by_cases h : q = id
  · rw [if_pos h, List.count_eq_length.2]
    intro b hb
    obtain ⟨p, _, e⟩ := List.mem_map.1 hb
    rw [← e, h]
  · rw [if_neg h, List.count_eq_zero]
    intro hm
    obtain ⟨p, _, e⟩ := List.mem_map.1 hm
    exact h e
theorem upW_count (l : List (Int × Int)) (now id : Int) (h0 : 0 ≤ id) : ∀ k : Nat, (upW l now k).count id = if id < (k : Int) then (oneW l now id).length else 0
  | 0 => by rw [if_neg (by omega)]; rfl
  | k + 1 => by
    unfold upW
    rw [List.count_append, upW_count l now id h0 k, oneW_count]
    by_cases e : (k : Int) = id
    · rw [if_neg (by omega), if_pos e, if_pos (by omega), e]
      simp
    · rw [if_neg e]
      by_cases h1 : id < (k : Int)
      · rw [if_pos h1, if_pos (by omega)]
        simp
      · rw [if_neg h1, if_neg (by omega)]
theorem oneW_length0 {l : List (Int × Int)} {now id : Int} (h : hasS l id = false) : (oneW l now id).length = 0 := by
  unfold oneW
  rw [List.length_map, List.length_eq_zero_iff, List.filter_eq_nil_iff]
  intro p hp hc
  have : hasS l id = true := hasS_iff.2 ⟨p.2, by
    simp at hc
    rw [← hc.1]
    exact hp⟩
  rw [h] at this
  cases this
theorem oneW_length : ∀ {l : List (Int × Int)} {now id x : Int}, (l.map (·.1)).Nodup → (id, x) ∈ l → (oneW l now id).length = if x ≤ now then 1 else 0
  | [], _, _, _, _, h => by cases h
  | p :: r, now, id, x, hn, h => by
    rw [List.map_cons, List.nodup_cons] at hn
    have hcons : (oneW (p :: r) now id).length = (if p.1 = id ∧ p.2 ≤ now then 1 else 0) + (oneW r now id).length := by
      unfold oneW
      rw [List.filter_cons]
      by_cases hc : p.1 = id ∧ p.2 ≤ now
      · rw [if_pos (by simp [hc.1, hc.2]), if_pos hc]
        simp
        omega
      · have h3 : ¬ ((p.1 == id && decide (p.2 ≤ now)) = true) := fun h4 => by
          simp at h4
          exact hc h4
        rw [if_neg h3, if_neg hc]
        simp
    rw [hcons]
    rcases List.mem_cons.1 h with e | h
    · rw [← e]
      have hr : hasS r id = false := by
        cases hc : hasS r id
        · rfl
        · obtain ⟨y, hy⟩ := hasS_iff.1 hc
          exact absurd (List.mem_map.2 ⟨_, hy, by rw [← e]⟩) hn.1
      rw [oneW_length0 hr]
      by_cases hx : x ≤ now
      · rw [if_pos ⟨rfl, hx⟩, if_pos hx]
      · rw [if_neg (fun hc => hx hc.2), if_neg hx]
    · have hp : p.1 ≠ id := fun e => hn.1 (List.mem_map.2 ⟨_, h, e.symm⟩)
      rw [if_neg (fun hc => hp hc.1), oneW_length hn.2 h, Nat.zero_add]
theorem take_countW (t : List Int) (node : Int) (i : Nat) (h : i < t.length) : (t.take (i + 1)).count node = (t.take i).count node + (if t.getD i 0 = node then 1 else 0) := by
  have e : t.getD i 0 = t[i] := by simp [List.getD, h]
  rw [List.take_succ_eq_append_getElem h, List.count_append, e]
  simp [List.count_singleton]

/-- the program's wheel -/
def WhHas (O : WhObj) (base : Nat) (w : World) (p : Value) (now : Int) (s : List (Int × Int)) : Prop := ∃ F, O.R w p F now s ∧ (∀ k, F k → base ≤ k)
section
variable {O : WhObj} {base : Nat} {w w' : World} {p : Value} {now : Int} {s : List (Int × Int)}
theorem WhHas.low (h : WhHas O base w p now s) (hl : Low w w') : WhHas O base w' p now s := by
  obtain ⟨F, h1, h2⟩ := h
  exact ⟨F, O.low h1 hl, h2⟩
theorem WhHas.right (h : WhHas O base w p now s) : 0 ≤ now ∧ RightW now s := by
  obtain ⟨F, h1, h2⟩ := h
  exact O.right h1
theorem WhHas.set {id at_ : Int} (h : WhHas O base w p now s) (hb : base ≤ w.heap.size) (hn : now ≤ 1000) (hid : i64ok id) (hat : i64ok at_) :
    Calls Try.prog 8 #[p, .int .i64 id, .int .i64 at_] w fun e w' => e = .returned (.bool (mayW id)) ∧ WhHas O base w' p now (toW s now id at_) ∧ Below base w w' := by
  obtain ⟨F, h1, h2⟩ := h
  refine (O.set id at_ h1 hn hid hat).mono ?_
  rintro e w' ⟨rfl, F', hR, hG, hO⟩
  exact ⟨rfl, ⟨F', hR, hG.from_ h2 hb⟩, hO.below h2 hb⟩
theorem WhHas.advance (h : WhHas O base w p now s) (hb : base ≤ w.heap.size) (hn : now ≤ 1000) :
    Calls Try.prog 14 #[p] w fun e w' => ∃ B c, e = .returned (.slice B (dueW s (now + 1)).length c) ∧ Ns w' w'.heap.size B (dueW s (now + 1)).length (dueW s (now + 1)) ∧ WhHas O base w' p (now + 1) (restW s (now + 1)) ∧ Below base w w' := by
  obtain ⟨F, h1, h2⟩ := h
  refine (O.advance h1 hn).mono ?_
  rintro e w' ⟨B, c, rfl, hn, F', hR, hG, hO⟩
  exact ⟨B, c, rfl, hn, ⟨F', hR, hG.from_ h2 hb⟩, hO.below h2 hb⟩
theorem WhHas.when {id : Int} (h : WhHas O base w p now s) (hid : i64ok id) : Calls Try.prog 7 #[p, .int .i64 id] w fun e w' => ∃ x : Int, e = .returned (.tuple #[.int .i64 x, .bool (hasS s id)]) ∧ (hasS s id = true → (id, x) ∈ s) ∧ (hasS s id = false → x = 0) ∧ Low w w' := by
  obtain ⟨F, h1, h2⟩ := h
  exact O.when id h1 hid
end
theorem toW_keeps {s : List (Int × Int)} {now id at_ id2 at2 : Int} (h : (id, at_) ∈ s) (hne : id2 ≠ id) : (id, at_) ∈ toW s now id2 at2 := by
  unfold toW
  split
  · unfold setW
    exact List.mem_append_left _ (List.mem_filter.2 ⟨h, by simpa using fun e => hne e.symm⟩)
  · exact h
theorem toW_len (s : List (Int × Int)) (now id at_ : Int) : (toW s now id at_).length ≤ s.length + 1 := by
  unfold toW
  split
  · exact setW_len s now id at_
  · omega

set_option maxHeartbeats 6400000 in
set_option maxRecDepth 100000 in
theorem who_walk (O : WhObj) (id at_ : Int) (A : Option Addr) (m c : Nat) (ops : List (Int × Int × Int)) (w : World) (hid : i64ok id) (hat : i64ok at_) (hm : m ≤ 140737488355328) (ha : Es tr3E w w.heap.size A m ops) :
    Calls Try.prog 4 #[.int .i64 id, .int .i64 at_, .slice A m c] w fun e w' => e = .returned (.bool true) ∧ Low w w' := by
  have HLV := Lib.hid fun u => whlives_any O u
  have HA := Lib.hid ha
  have HID := Lib.hid hid
  have HAT := Lib.hid hat
  clear ha hid hat
  by_cases hr : (0 ≤ id ∧ id ≤ 255) ∧ (1 ≤ at_ ∧ at_ ≤ 100)
  · have hid0 : 0 ≤ id := hr.1.1
    have hid1 : id ≤ 255 := hr.1.2
    have hat0 : 1 ≤ at_ := hr.2.1
    have hat1 : at_ ≤ 100 := hr.2.2
    clear hr
    go_enter Try.func4, Try.ntmps4
    go_wp2_with fail
    refine (O.new w).mono ?_
    rintro e w1 ⟨g, F0, rfl, hR, hF, hl⟩
    have HS := Lib.hid (show WhHas O w.heap.size w1 (.pointer (some ⟨g, 0, none⟩)) 0 [] from ⟨F0, hR, hF⟩)
    have HOP := Lib.hid (HA.out.below hl)
    have HL := Lib.hid (show Below w.heap.size w w1 from hl)
    clear hR hF hl HA
    go_wp2_with fail
    refine (HS.out.set HL.out.size (by omega) HID.out HAT.out).mono ?_
    rintro e w2 ⟨rfl, hs2, hb2⟩
    have HIN := Lib.hid (show (id, at_) ∈ toW [] 0 id at_ by
      have hm : mayW id = true := by unfold mayW; rw [decide_eq_true hid0, decide_eq_true (show id < 256 by omega)]; rfl
      unfold toW
      rw [if_pos hm]
      unfold setW atW
      rw [if_neg (by omega)]
      simp)
    have HSL := Lib.hid (toW_len [] 0 id at_)
    replace HS := Lib.hid hs2
    replace HOP := Lib.hid (HOP.out.below hb2)
    replace HL := Lib.hid (HL.out.trans hb2)
    clear hs2 hb2
    generalize toW [] 0 id at_ = s0 at *
    go_wp2_with fail
    go_loopw [8] (fun v8 wr => ∃ (i : Nat) (s : List (Int × Int)), i ≤ m ∧ i ≤ 40 ∧ v8 = .int .i64 i ∧ Hid (WhHas O w.heap.size wr (.pointer (some ⟨g, 0, none⟩)) 0 s) ∧ Hid (s.length ≤ i + 1) ∧ Hid ((id, at_) ∈ s) ∧ Hid (Es tr3E wr w.heap.size A m ops) ∧ Hid (Below w.heap.size w wr)) (fun v _ => 40 - (intOf v).toNat)
    case atStart => exact ⟨0, s0, by omega, by omega, rfl, HS, HSL, HIN, HOP, HL⟩
    case round =>
      clear HS HSL HIN HOP HL
      obtain ⟨i, s, hi, hi40, rfl, HS, HSL, HIN, HOP, HL⟩ := hrel
      by_cases hlt : i < m ∧ i < 40
      · have hlt1 : (i : Int) < m := by omega
        have hlt2 : (i : Int) < 40 := by omega
        obtain ⟨ob, oo, rfl, hob, _, c1, c2, _, k1, k2⟩ := tr3_at HOP.out hlt.1
        generalize (ops.getD i (0, 0, 0)).2.1 = id2 at *
        generalize (ops.getD i (0, 0, 0)).2.2 = at2 at *
        have HI2 := Lib.hid k1
        have HA2 := Lib.hid k2
        clear k1 k2
        by_cases hne : id2 = id
        · have hnn : (id2 != id) = false := by simpa using hne
          replace hne := Lib.hid hne
          clear c2
          go_wp2_with fail
          go_roundw
          case rel => exact ⟨i + 1, s, by omega, by omega, by go_num, HS, Lib.hid (by have := HSL.out; omega), HIN, HOP, HL⟩
          case measure => simp [intOf]; omega
        · have hnn : (id2 != id) = true := by simpa using hne
          have HIN2 := Lib.hid (toW_keeps (now := 0) (at2 := at2) HIN.out hne)
          have HSL2 := Lib.hid (show (toW s 0 id2 at2).length ≤ i + 1 + 1 by have := toW_len s 0 id2 at2; have := HSL.out; omega)
          replace hne := Lib.hid hne
          go_wp2_with fail
          refine wp_region_planS (fun y => y.cell? ⟨ob, oo + i * 3 + 1, none⟩ = some (.int .i64 id2) ∧ y.cell? ⟨ob, oo + i * 3 + 2, none⟩ = some (.int .i64 at2)) (.rd 0 (.rd 1 (.rd 2 (.rd 3 (.rd 4 (.rd 5 (.rd 6 (.rd 7 (.rd 8 (.rd 9 (.rd 10 (.act 11 (.done))))))))))))) (by kernel_rfl) (by kernel_rfl) (fun _ _ d _ _ h => by cases d <;> exact h) (by kernel_rfl) ⟨c1, c2⟩ ?_
          replace HS : Hid (WhHas O w.heap.size wr.drew (.pointer (some ⟨g, 0, none⟩)) 0 s) := Lib.hid (HS.out.low (show Low wr wr.drew from Below.drew (Low.refl wr)))
          replace HOP : Hid (Es tr3E wr.drew w.heap.size (some ⟨ob, oo, none⟩) m ops) := Lib.hid (HOP.out.keep fun _ _ => rfl)
          replace HL : Hid (Below w.heap.size w wr.drew) := Lib.hid (Below.drew HL.out)
          replace c1 : wr.drew.cell? ⟨ob, oo + i * 3 + 1, none⟩ = _ := c1
          replace c2 : wr.drew.cell? ⟨ob, oo + i * 3 + 2, none⟩ = _ := c2
          generalize wr.drew = wd at *
          replace c1 := Lib.hid c1
          replace c2 := Lib.hid c2
          iterate 11 (refine walkS_read (v := _) rfl (by rfl) (by rintro yw ⟨r1, r2⟩; go_simp; try rfl) ?_; simp only [Act.put, List.setIfInBounds_toArray, List.set_cons_zero, List.set_cons_succ])
          refine walkS_act rfl (by rfl) (fun K2 hK2 => ?_)
          go_simp
          refine (HS.out.set HL.out.size (by omega) HI2.out HA2.out).mono ?_
          rintro e w8 ⟨rfl, hi8, hb8⟩
          have HS8 := Lib.hid hi8
          have HOP8 := Lib.hid (HOP.out.below hb8)
          have HL8 := Lib.hid (HL.out.trans hb8)
          have d1 := (hb8.cell (p := ⟨ob, oo + i * 3 + 1, none⟩) hob).trans c1.out
          have d2 := (hb8.cell (p := ⟨ob, oo + i * 3 + 2, none⟩) hob).trans c2.out
          go_simp
          refine hK2 _ _ ⟨d1, d2⟩ ?_
          clear hK2 K2 hi8 hb8 HS HOP HL c1 c2 d1 d2 HIN HSL
          unfold walkS
          go_wp2_with fail
          go_roundw
          case rel => exact ⟨i + 1, _, by omega, by omega, by go_num, HS8, HSL2, HIN2, HOP8, HL8⟩
          case measure => simp [intOf]; omega
      · clear HOP
        have hsl0 := HSL.out
        by_cases him : i < m
        · have hlt1 : (i : Int) < m := by omega
          have hlt3 : (40 : Int) ≤ i := by omega
          clear hlt
          go_wp2_with fail
          go_loopw [9] (fun v9 wr => ∃ (k : Nat) (s : List (Int × Int)), 1 ≤ k ∧ k ≤ 101 ∧ v9 = .int .i64 k ∧ Hid (WhHas O w.heap.size wr (.pointer (some ⟨g, 0, none⟩)) ((k : Int) - 1) s) ∧ Hid (s.length ≤ 100) ∧ Hid (if (k : Int) ≤ at_ then (id, at_) ∈ s else hasS s id = false) ∧ Hid (Below w.heap.size w wr)) (fun v _ => 101 - (intOf v).toNat)
          case atStart => exact ⟨1, s, by omega, by omega, rfl, by simpa using HS, Lib.hid (by have := HSL.out; omega), Lib.hid (by rw [if_pos (by omega)]; exact HIN.out), HL⟩
          case round =>
            clear HS HSL HIN HL
            obtain ⟨k, s, hk1, hk2, rfl, HS, HSL, HIN, HL⟩ := hrel
            by_cases hk : k ≤ 100
            · have hk3 : (k : Int) ≤ 100 := by omega
              go_wp2_with fail
              refine (HS.out.advance HL.out.size (by omega)).mono ?_
              rintro e w3 ⟨B, c3, rfl, hn3, hs3, hb3⟩
              have e1 : (k : Int) - 1 + 1 = k := by omega
              rw [e1] at hn3 hs3 ⊢
              have HRW := Lib.hid HS.out.right.2
              have hdl : (dueW s (k : Int)).length ≤ 256 * s.length := upW_len s (k : Int) 256
              have hsl := HSL.out
              have HCN := Lib.hid (show (dueW s (k : Int)).count id = if (k : Int) = at_ then 1 else 0 by
                unfold dueW
                rw [upW_count s k id hid0 256, if_pos (show id < ((256 : Nat) : Int) by omega)]
                by_cases hka : (k : Int) ≤ at_
                · have h1 := HIN.out
                  rw [if_pos hka] at h1
                  rw [oneW_length HRW.out.keys h1]
                  by_cases e : (k : Int) = at_
                  · rw [if_pos (by omega), if_pos e]
                  · rw [if_neg (by omega), if_neg e]
                · have h1 := HIN.out
                  rw [if_neg hka] at h1
                  rw [oneW_length0 h1, if_neg (by omega)])
              have HIN4 := Lib.hid (show if ((k + 1 : Nat) : Int) ≤ at_ then (id, at_) ∈ restW s (k : Int) else hasS (restW s (k : Int)) id = false by
                by_cases hka : (k : Int) ≤ at_
                · have h1 := HIN.out
                  rw [if_pos hka] at h1
                  by_cases e : ((k + 1 : Nat) : Int) ≤ at_
                  · rw [if_pos e]
                    exact List.mem_filter.2 ⟨h1, by simp; omega⟩
                  · rw [if_neg e]
                    cases hc : hasS (restW s (k : Int)) id
                    · rfl
                    · obtain ⟨y, hy⟩ := hasS_iff.1 hc
                      obtain ⟨h2, h3⟩ := List.mem_filter.1 hy
                      have h4 := one_of_keys HRW.out.keys h1 h2
                      simp at h3
                      omega
                · have h1 := HIN.out
                  rw [if_neg hka] at h1
                  rw [if_neg (by omega)]
                  cases hc : hasS (restW s (k : Int)) id
                  · rfl
                  · obtain ⟨y, hy⟩ := hasS_iff.1 hc
                    have h2 : hasS s id = true := hasS_iff.2 ⟨y, (List.mem_filter.1 hy).1⟩
                    rw [h1] at h2
                    cases h2)
              have HS4 := Lib.hid (show WhHas O w.heap.size w3 (.pointer (some ⟨g, 0, none⟩)) (((k + 1 : Nat) : Int) - 1) (restW s (k : Int)) by rw [show ((k + 1 : Nat) : Int) - 1 = (k : Int) by omega]; exact hs3)
              have HSL4 := Lib.hid (Nat.le_trans (restW_len s (k : Int)) HSL.out)
              have HL4 := Lib.hid (HL.out.trans hb3)
              have HN := Lib.hid hn3
              clear hn3 hs3 hb3 e1 HS HSL HIN HL HRW
              generalize dueW s (k : Int) = du at *
              generalize restW s (k : Int) = s2 at *
              go_wp2_with fail
              go_loop [11, 12] (fun v11 v12 => ∃ (t q : Nat), t ≤ du.length ∧ v12 = .int .i64 t ∧ v11 = .int .i64 q ∧ q ≤ t ∧ Hid (q = (du.take t).count id)) (fun _ v => du.length - (intOf v).toNat)
              case atStart => exact ⟨0, 0, by omega, rfl, rfl, by omega, Lib.hid rfl⟩
              case round =>
                obtain ⟨t, q, ht, rfl, rfl, hq, HQ⟩ := hrel
                by_cases htl : t < du.length
                · have htl2 : (t : Int) < du.length := by omega
                  obtain ⟨gb, go, rfl, _, hcc⟩ := HN.out.at_ htl
                  have c0 := hcc t htl
                  have HT := Lib.hid (take_countW du id t htl)
                  rw [← HQ.out] at HT
                  clear hcc HQ
                  generalize du.getD t 0 = y at *
                  by_cases hy : y = id
                  · rw [if_pos hy] at HT
                    subst hy
                    have hyy : (y == y) = true := by simp
                    go_wp2_with fail
                    go_round
                    case rel => exact ⟨t + 1, q + 1, by omega, by go_num, by go_num, by omega, Lib.hid HT.out.symm⟩
                    case measure => simp [intOf]; omega
                  · rw [if_neg hy] at HT
                    have hyy : (y == id) = false := by simpa using hy
                    replace hy := Lib.hid hy
                    go_wp2_with fail
                    go_round
                    case rel => exact ⟨t + 1, q, by omega, by go_num, rfl, by omega, Lib.hid (by rw [HT.out]; rfl)⟩
                    case measure => simp [intOf]; omega
                · obtain rfl : t = du.length := by omega
                  rw [List.take_of_length_le (Nat.le_refl _), HCN.out] at HQ
                  have htl2 : ¬ (du.length : Int) < du.length := by omega
                  by_cases hka : (k : Int) = at_
                  · rw [if_pos hka] at HQ
                    obtain rfl := HQ.out
                    have hkk : ((k : Int) == at_) = true := by simpa using hka
                    have hkk2 : ((k : Int) != at_) = false := by simpa using hka
                    replace hka := Lib.hid hka
                    go_wp2_with fail
                    go_roundw
                    case rel => exact ⟨k + 1, s2, by omega, by omega, by go_num, HS4, HSL4, HIN4, HL4⟩
                    case measure => simp [intOf]; omega
                  · rw [if_neg hka] at HQ
                    obtain rfl := HQ.out
                    have hkk : ((k : Int) == at_) = false := by simpa using hka
                    have hkk2 : ((k : Int) != at_) = true := by simpa using hka
                    replace hka := Lib.hid hka
                    go_wp2_with fail
                    go_roundw
                    case rel => exact ⟨k + 1, s2, by omega, by omega, by go_num, HS4, HSL4, HIN4, HL4⟩
                    case measure => simp [intOf]; omega
            · obtain rfl : k = 101 := by omega
              have h1 := HIN.out
              rw [if_neg (by omega)] at h1
              have HNO := Lib.hid h1
              have hk3 : ¬ ((101 : Nat) : Int) ≤ 100 := by omega
              clear h1
              go_wp2_with fail
              refine (HS.out.when HID.out).mono ?_
              rintro e w4 ⟨x, rfl, _, _, hl⟩
              rw [HNO.out]
              have HL4 := Lib.hid (HL.out.trans (hl.mono HL.out.size))
              clear hl
              go_wp2_with fail
              refine (HLV.out w4).mono ?_
              rintro e w5 ⟨rfl, hl⟩
              have hL9 := Lib.hid (HL4.out.trans (hl.mono HL4.out.size))
              clear hl
              go_wp2_with fail
              go_ret
              exact ⟨rfl, hL9.out⟩
        · have hlt1 : ¬ (i : Int) < m := by omega
          clear hlt
          go_wp2_with fail
          go_loopw [9] (fun v9 wr => ∃ (k : Nat) (s : List (Int × Int)), 1 ≤ k ∧ k ≤ 101 ∧ v9 = .int .i64 k ∧ Hid (WhHas O w.heap.size wr (.pointer (some ⟨g, 0, none⟩)) ((k : Int) - 1) s) ∧ Hid (s.length ≤ 100) ∧ Hid (if (k : Int) ≤ at_ then (id, at_) ∈ s else hasS s id = false) ∧ Hid (Below w.heap.size w wr)) (fun v _ => 101 - (intOf v).toNat)
          case atStart => exact ⟨1, s, by omega, by omega, rfl, by simpa using HS, Lib.hid (by have := HSL.out; omega), Lib.hid (by rw [if_pos (by omega)]; exact HIN.out), HL⟩
          case round =>
            clear HS HSL HIN HL
            obtain ⟨k, s, hk1, hk2, rfl, HS, HSL, HIN, HL⟩ := hrel
            by_cases hk : k ≤ 100
            · have hk3 : (k : Int) ≤ 100 := by omega
              go_wp2_with fail
              refine (HS.out.advance HL.out.size (by omega)).mono ?_
              rintro e w3 ⟨B, c3, rfl, hn3, hs3, hb3⟩
              have e1 : (k : Int) - 1 + 1 = k := by omega
              rw [e1] at hn3 hs3 ⊢
              have HRW := Lib.hid HS.out.right.2
              have hdl : (dueW s (k : Int)).length ≤ 256 * s.length := upW_len s (k : Int) 256
              have hsl := HSL.out
              have HCN := Lib.hid (show (dueW s (k : Int)).count id = if (k : Int) = at_ then 1 else 0 by
                unfold dueW
                rw [upW_count s k id hid0 256, if_pos (show id < ((256 : Nat) : Int) by omega)]
                by_cases hka : (k : Int) ≤ at_
                · have h1 := HIN.out
                  rw [if_pos hka] at h1
                  rw [oneW_length HRW.out.keys h1]
                  by_cases e : (k : Int) = at_
                  · rw [if_pos (by omega), if_pos e]
                  · rw [if_neg (by omega), if_neg e]
                · have h1 := HIN.out
                  rw [if_neg hka] at h1
                  rw [oneW_length0 h1, if_neg (by omega)])
              have HIN4 := Lib.hid (show if ((k + 1 : Nat) : Int) ≤ at_ then (id, at_) ∈ restW s (k : Int) else hasS (restW s (k : Int)) id = false by
                by_cases hka : (k : Int) ≤ at_
                · have h1 := HIN.out
                  rw [if_pos hka] at h1
                  by_cases e : ((k + 1 : Nat) : Int) ≤ at_
                  · rw [if_pos e]
                    exact List.mem_filter.2 ⟨h1, by simp; omega⟩
                  · rw [if_neg e]
                    cases hc : hasS (restW s (k : Int)) id
                    · rfl
                    · obtain ⟨y, hy⟩ := hasS_iff.1 hc
                      obtain ⟨h2, h3⟩ := List.mem_filter.1 hy
                      have h4 := one_of_keys HRW.out.keys h1 h2
                      simp at h3
                      omega
                · have h1 := HIN.out
                  rw [if_neg hka] at h1
                  rw [if_neg (by omega)]
                  cases hc : hasS (restW s (k : Int)) id
                  · rfl
                  · obtain ⟨y, hy⟩ := hasS_iff.1 hc
                    have h2 : hasS s id = true := hasS_iff.2 ⟨y, (List.mem_filter.1 hy).1⟩
                    rw [h1] at h2
                    cases h2)
              have HS4 := Lib.hid (show WhHas O w.heap.size w3 (.pointer (some ⟨g, 0, none⟩)) (((k + 1 : Nat) : Int) - 1) (restW s (k : Int)) by rw [show ((k + 1 : Nat) : Int) - 1 = (k : Int) by omega]; exact hs3)
              have HSL4 := Lib.hid (Nat.le_trans (restW_len s (k : Int)) HSL.out)
              have HL4 := Lib.hid (HL.out.trans hb3)
              have HN := Lib.hid hn3
              clear hn3 hs3 hb3 e1 HS HSL HIN HL HRW
              generalize dueW s (k : Int) = du at *
              generalize restW s (k : Int) = s2 at *
              go_wp2_with fail
              go_loop [11, 12] (fun v11 v12 => ∃ (t q : Nat), t ≤ du.length ∧ v12 = .int .i64 t ∧ v11 = .int .i64 q ∧ q ≤ t ∧ Hid (q = (du.take t).count id)) (fun _ v => du.length - (intOf v).toNat)
              case atStart => exact ⟨0, 0, by omega, rfl, rfl, by omega, Lib.hid rfl⟩
              case round =>
                obtain ⟨t, q, ht, rfl, rfl, hq, HQ⟩ := hrel
                by_cases htl : t < du.length
                · have htl2 : (t : Int) < du.length := by omega
                  obtain ⟨gb, go, rfl, _, hcc⟩ := HN.out.at_ htl
                  have c0 := hcc t htl
                  have HT := Lib.hid (take_countW du id t htl)
                  rw [← HQ.out] at HT
                  clear hcc HQ
                  generalize du.getD t 0 = y at *
                  by_cases hy : y = id
                  · rw [if_pos hy] at HT
                    subst hy
                    have hyy : (y == y) = true := by simp
                    go_wp2_with fail
                    go_round
                    case rel => exact ⟨t + 1, q + 1, by omega, by go_num, by go_num, by omega, Lib.hid HT.out.symm⟩
                    case measure => simp [intOf]; omega
                  · rw [if_neg hy] at HT
                    have hyy : (y == id) = false := by simpa using hy
                    replace hy := Lib.hid hy
                    go_wp2_with fail
                    go_round
                    case rel => exact ⟨t + 1, q, by omega, by go_num, rfl, by omega, Lib.hid (by rw [HT.out]; rfl)⟩
                    case measure => simp [intOf]; omega
                · obtain rfl : t = du.length := by omega
                  rw [List.take_of_length_le (Nat.le_refl _), HCN.out] at HQ
                  have htl2 : ¬ (du.length : Int) < du.length := by omega
                  by_cases hka : (k : Int) = at_
                  · rw [if_pos hka] at HQ
                    obtain rfl := HQ.out
                    have hkk : ((k : Int) == at_) = true := by simpa using hka
                    have hkk2 : ((k : Int) != at_) = false := by simpa using hka
                    replace hka := Lib.hid hka
                    go_wp2_with fail
                    go_roundw
                    case rel => exact ⟨k + 1, s2, by omega, by omega, by go_num, HS4, HSL4, HIN4, HL4⟩
                    case measure => simp [intOf]; omega
                  · rw [if_neg hka] at HQ
                    obtain rfl := HQ.out
                    have hkk : ((k : Int) == at_) = false := by simpa using hka
                    have hkk2 : ((k : Int) != at_) = true := by simpa using hka
                    replace hka := Lib.hid hka
                    go_wp2_with fail
                    go_roundw
                    case rel => exact ⟨k + 1, s2, by omega, by omega, by go_num, HS4, HSL4, HIN4, HL4⟩
                    case measure => simp [intOf]; omega
            · obtain rfl : k = 101 := by omega
              have h1 := HIN.out
              rw [if_neg (by omega)] at h1
              have HNO := Lib.hid h1
              have hk3 : ¬ ((101 : Nat) : Int) ≤ 100 := by omega
              clear h1
              go_wp2_with fail
              refine (HS.out.when HID.out).mono ?_
              rintro e w4 ⟨x, rfl, _, _, hl⟩
              rw [HNO.out]
              have HL4 := Lib.hid (HL.out.trans (hl.mono HL.out.size))
              clear hl
              go_wp2_with fail
              refine (HLV.out w4).mono ?_
              rintro e w5 ⟨rfl, hl⟩
              have hL9 := Lib.hid (HL4.out.trans (hl.mono HL4.out.size))
              clear hl
              go_wp2_with fail
              go_ret
              exact ⟨rfl, hL9.out⟩
  · by_cases h1 : id < 0
    · go_enter Try.func4, Try.ntmps4
      go_wp2_with fail
      refine (O.new w).mono ?_
      rintro e w1 ⟨g, F0, rfl, _, _, hl⟩
      have hL := Lib.hid hl
      clear hl
      go_wp2_with fail
      refine (HLV.out w1).mono ?_
      rintro e w2 ⟨rfl, hl⟩
      replace hL := Lib.hid (hL.out.trans hl)
      clear hl
      go_wp2_with fail
      go_ret
      exact ⟨rfl, hL.out⟩
    · by_cases h2 : 255 < id
      · go_enter Try.func4, Try.ntmps4
        go_wp2_with fail
        refine (O.new w).mono ?_
        rintro e w1 ⟨g, F0, rfl, _, _, hl⟩
        have hL := Lib.hid hl
        clear hl
        go_wp2_with fail
        refine (HLV.out w1).mono ?_
        rintro e w2 ⟨rfl, hl⟩
        replace hL := Lib.hid (hL.out.trans hl)
        clear hl
        go_wp2_with fail
        go_ret
        exact ⟨rfl, hL.out⟩
      · by_cases h3 : at_ < 1
        · go_enter Try.func4, Try.ntmps4
          go_wp2_with fail
          refine (O.new w).mono ?_
          rintro e w1 ⟨g, F0, rfl, _, _, hl⟩
          have hL := Lib.hid hl
          clear hl
          go_wp2_with fail
          refine (HLV.out w1).mono ?_
          rintro e w2 ⟨rfl, hl⟩
          replace hL := Lib.hid (hL.out.trans hl)
          clear hl
          go_wp2_with fail
          go_ret
          exact ⟨rfl, hL.out⟩
        · have h4 : 100 < at_ := by omega
          go_enter Try.func4, Try.ntmps4
          go_wp2_with fail
          refine (O.new w).mono ?_
          rintro e w1 ⟨g, F0, rfl, _, _, hl⟩
          have hL := Lib.hid hl
          clear hl
          go_wp2_with fail
          refine (HLV.out w1).mono ?_
          rintro e w2 ⟨rfl, hl⟩
          replace hL := Lib.hid (hL.out.trans hl)
          clear hl
          go_wp2_with fail
          go_ret
          exact ⟨rfl, hL.out⟩
end Go.Proofs.Ythbboiolhejmmaa
