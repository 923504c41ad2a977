/- What topt.Parse answers: the options of bytes. Condition: at most 2^47 bytes. -/
import Derived.Test.YtkbgfddicpnbmaaTpI
namespace Go.Proofs.Ytkbgfddicpnbmaa
open Go.RowKit
set_option linter.unusedVariables false

/-- data, and options, that lie from block lo on -/
def Od.from_ (lo : Nat) (o : Od) : Prop := 0 < o.n → ∃ b p, o.A = some ⟨b, p, none⟩ ∧ lo ≤ b
def OFrom (lo : Nat) (A : Option Addr) (n : Nat) (os : List Od) : Prop := (0 < n → ∃ b p, A = some ⟨b, p, none⟩ ∧ lo ≤ b) ∧ ∀ o ∈ os, o.from_ lo
theorem Od.from_.less {lo lo' : Nat} {o : Od} (h : o.from_ lo) (hl : lo' ≤ lo) : o.from_ lo' := fun hn => by
  obtain ⟨b, p, e, hb⟩ := h hn
  exact ⟨b, p, e, by omega⟩
theorem Od.from_.nul (lo : Nat) (k : Int) (A : Option Addr) (c : Nat) (d : List Int) : Od.from_ lo ⟨k, A, 0, c, d⟩ := fun h => absurd h (by show ¬ 0 < 0; omega)
theorem Od.from_.of_off {w : World} {lo : Nat} {o : Od} (h : ∀ X : Option Nat, (∀ x, X = some x → x < lo) → o.off w X) : o.from_ lo := fun hn => by
  obtain ⟨b, p, e, hb, -, -⟩ := (h none (fun x e => by cases e)).2.2.2.2 hn
  refine ⟨b, p, e, ?_⟩
  rcases Nat.lt_or_ge b lo with hlt | hge
  · obtain ⟨b', p', e', -, hne, -⟩ := (h (some b) (fun x e => by injection e with e; omega)).2.2.2.2 hn
    rw [e] at e'
    injection e' with e'
    injection e' with e1 _ _
    exact absurd (by rw [e1]) hne
  · exact hge
theorem OFrom.nil (lo : Nat) (A : Option Addr) : OFrom lo A 0 [] := ⟨fun h => absurd h (by omega), fun o h => by cases h⟩
theorem OFrom.own {t : TypeId} {w : World} {base lo n c : Nat} {A : Option Addr} {os : List Od} (h : OwnO t w base A n c os) (hl : lo ≤ base) (ho : ∀ o ∈ os, o.from_ lo) : OFrom lo A n os :=
  ⟨fun hn => by
    obtain ⟨g, cap, hv, hb, _⟩ := World.ownsRow.form h hn
    have hA : A = some ⟨g, 0, none⟩ := by injection hv
    exact ⟨g, 0, hA, by omega⟩, ho⟩

/-- options and a number are handed back -/
def GivesO (w : World) (r : List Ob × Int) (e : Ending) (w' : World) : Prop :=
  ∃ A c os, e = .returned (.tuple #[.slice A r.1.length c, .int .i64 r.2]) ∧ os.map Od.v = r.1 ∧ Os w' w'.heap.size A r.1.length os ∧ Below w.heap.size w w' ∧ OFrom w.heap.size A r.1.length os
theorem GivesO.err {w w' : World} {r : List Ob × Int} (k : Int) (h : r = ([], k)) (hB : Below w.heap.size w w') : GivesO w r (.returned (.tuple #[.slice none 0 0, .int .i64 k])) w' := by
  subst h
  exact ⟨none, 0, [], rfl, rfl, Os.nil _ _ _, hB, OFrom.nil _ _⟩
theorem Bs.behind {w : World} {B b o n s : Nat} {xs : List Int} (h : Bs w B (some ⟨b, o, none⟩) n xs) (hs : s ≤ n) : Bs w B (some ⟨b, o + s, none⟩) (n - s) (xs.drop s) :=
  ⟨by rw [List.length_drop, h.len], h.all.drop s, fun hn => by
    obtain ⟨b', o', e, hb, hc⟩ := h.mem (by omega)
    injection e with e
    injection e with e1 e2 _
    subst e1 e2
    refine ⟨_, _, rfl, hb, fun i hi => ?_⟩
    have := hc (s + i) (by omega)
    rw [← Nat.add_assoc] at this
    rw [this]
    simp [List.getD, List.getElem?_drop]⟩
theorem parseO_stop {f : Nat} {xs : List Int} (h : xs ≠ []) (h0 : xs.getD 0 0 = 0) : parseO (f + 1) xs = if zerosB xs = true then ([], 0) else ([], 5) := by rw [parseO, if_neg h, if_pos h0]
theorem parseO_next {f : Nat} {xs : List Int} (h : xs ≠ []) (h0 : xs.getD 0 0 ≠ 0) : parseO (f + 1) xs = if (takeO xs).2.2 = 0 then joinO [(takeO xs).1] (parseO f (xs.drop (takeO xs).2.1)) else ([], (takeO xs).2.2) := by rw [parseO, if_neg h, if_neg h0]
def valLen : Value → Nat
  | .slice _ n _ => n
  | _ => 0
/-- where the parsing stands -/
def ParRel (w : World) (R : List Ob × Int) (v0 v4 : Value) (wr : World) : Prop :=
  ∃ A n c xs f LA q lc os, v0 = .slice A n c ∧ v4 = .slice LA q lc ∧ Bs wr w.heap.size A n xs ∧ n ≤ c ∧ c ≤ 9223372036854775807 ∧ q + n ≤ 40 ∧ n < f ∧ OwnO 85 wr w.heap.size LA q lc os ∧ (∀ o ∈ os, o.off wr (Value.slice LA q lc).ownBlock) ∧ Hid (R = joinO (os.map Od.v) (parseO f xs)) ∧ Below w.heap.size w wr ∧ Hid (∀ o ∈ os, o.from_ w.heap.size)

set_option maxRecDepth 100000 in
set_option maxHeartbeats 2000000 in
theorem tparse_any (A : Option Addr) (n c : Nat) (xs : List Int) (w : World) (hn : n ≤ 140737488355328) (hc : n ≤ c) (hc2 : c ≤ 9223372036854775807) (hb : Bs w w.heap.size A n xs) :
    Calls Try.prog 33 #[.slice A n c] w (GivesO w (parseL xs)) := by
  obtain ⟨i0, hi, hz0, hz1, hz2⟩ := info_parts info_opt
  by_cases h40 : 40 < n
  · have HX := Lib.hid (show parseL xs = ([], 4) by unfold parseL; rw [if_pos (by rw [hb.len]; exact h40)])
    clear hb
    go_enter Try.func33, Try.ntmps33
    go_wp2_with fail
    go_ret2
    exact GivesO.err 4 HX.out (Below.refl _ _)
  · have HX := Lib.hid (show parseL xs = joinO (List.map Od.v []) (parseO 41 xs) by
      unfold parseL
      rw [if_neg (by rw [hb.len]; exact h40)]
      exact (joinO_nil _ (parseO_err_nil 41 xs)).symm)
    generalize parseL xs = R at *
    have hrel0 : ParRel w R (.slice A n c) (.slice none 0 0) w := ⟨A, n, c, xs, 41, none, 0, 0, [], rfl, rfl, hb, hc, hc2, by omega, by omega, OwnO.none_ _ _ _, (fun o h => by cases h), HX, Below.refl _ _, Lib.hid (fun o h => by cases h)⟩
    clear hb HX
    go_enter Try.func33, Try.ntmps33
    go_wp2_with fail
    go_loopw [0, 4] (fun v0 v4 wr => ParRel w R v0 v4 wr) (fun v0 _ _ => valLen v0)
    case atStart => exact hrel0
    case round =>
      clear hrel0
      obtain ⟨A, n, c, xs, f, LA, q, lc, os, rfl, rfl, hb, hc, hc2, hq, hf, hown, hoff, HR, hB, HF⟩ := hrel
      by_cases h0 : 0 < n
      · obtain ⟨f, rfl⟩ : ∃ f', f = f' + 1 := ⟨f - 1, by omega⟩
        have hsz := hB.size
        have hxne : xs ≠ [] := fun e => by have := hb.len; rw [e] at this; simp at this; omega
        have hbm := hb.more hsz
        obtain ⟨b, o, rfl, hbl, hcc⟩ := hb.mem h0
        have c1 : wr.cell? ⟨b, o, none⟩ = some (.int .u8 (xs.getD 0 0)) := hcc 0 h0
        have hn1 := hb.nonneg 0
        by_cases hz : xs.getD 0 0 = 0
        · rw [hz] at c1
          have hR : R = if zerosB xs = true then (os.map Od.v, 0) else ([], 5) := by
            rw [HR.out, parseO_stop hxne hz]
            split <;> simp [joinO]
          have HRR := Lib.hid hR
          have HOWN := Lib.hid hown
          have HOFF := Lib.hid hoff
          have hlen := hown.len
          clear hR HR hown hoff hb hcc hn1 hz
          go_wp2_with fail
          refine (zeros_any _ n c xs wr (by omega) hbm).mono ?_
          rintro e w1 ⟨rfl, rfl⟩
          have hR := HRR.out
          cases hzz : zerosB xs
          · rw [hzz, if_neg (by simp)] at hR
            have HR2 := Lib.hid hR
            clear hR hzz HRR hbm c1
            go_wp2_with fail
            go_ret2
            exact GivesO.err 5 HR2.out hB
          · rw [hzz, if_pos rfl] at hR
            have HR2 := Lib.hid hR
            clear hR hzz HRR hbm c1
            go_wp2_with fail
            go_ret2
            rw [HR2.out]
            refine ⟨LA, lc, os, ?_, rfl, ?_, hB, by simpa [hlen] using OFrom.own HOWN.out (Nat.le_refl _) HF.out⟩
            · simp [hlen]
            · simpa [hlen] using HOWN.out.lies (Nat.le_refl _) fun o h => (HOFF.out o h).ok
        · have hR : R = if (takeO xs).2.2 = 0 then joinO (os.map Od.v ++ [(takeO xs).1]) (parseO f (xs.drop (takeO xs).2.1)) else ([], (takeO xs).2.2) := by
            rw [HR.out, parseO_next hxne hz]
            split
            · rw [joinO_join]
            · rename_i h; simp [joinO, h]
          have hts := takeO_size (xs := xs)
          have hte := takeO_err xs
          have HLEN := Lib.hid hb.len
          have htake := take_any (some ⟨b, o, none⟩) n c xs wr (by omega) h0 hc hc2 hbm
          have hzb : (xs.getD 0 0 == 0) = false := by simpa using hz
          rw [hb.len] at hts
          generalize takeO xs = T at *
          generalize xs.getD 0 0 = x0 at *
          obtain ⟨ob, sz, er⟩ := T
          dsimp only at hR hts hte
          have HRR := Lib.hid hR
          have HOWN := Lib.hid hown
          have HOFF := Lib.hid hoff
          have hlen := hown.len
          have HB := Lib.hid hb
          have HT := Lib.hid htake
          have hltO := hown.lt
          clear hR HR hown hoff hcc hz hb hbm htake hxne
          go_wp2_with fail
          refine HT.out.mono ?_
          rintro e w1 ⟨od, rfl, hv, hoff1, hB1⟩
          have hR := HRR.out
          by_cases he : er = 0
          · subst he
            rw [if_pos rfl] at hR
            obtain ⟨hs1, hs2⟩ := hts rfl h0
            obtain ⟨kk, DA, dn, dc, d⟩ := od
            have hok := (hoff1 none (fun x e => by cases e)).ok
            have HF2 := Lib.hid ((Od.from_.of_off hoff1).less hsz)
            have hoff2 := hoff1 (Value.slice LA q lc).ownBlock (fun x e => (hltO x e).2)
            have hl1 := Low.alloc w1 (.cells #[.int .i64 kk, .slice DA dn dc] 85)
            have hl2 := hl1.trans (Low.alloc _ (.cells #[.int .i64 kk, .slice DA dn dc] 85))
            have hlw := Low.trans hB1 hl2
            have hown1 := HOWN.out.below hlw
            have hsrc := Os.one (w1.alloc (.cells #[.int .i64 kk, .slice DA dn dc] 85)) 85 ⟨kk, DA, dn, dc, d⟩ (B := w1.heap.size + 2) ((hok.keep fun p hp => hl1.cell hp).more hl1.size) (by simp)
            simp only [World.size_alloc] at hsrc
            have hoff3 : ∀ o ∈ os, o.off _ (Value.slice LA q lc).ownBlock := fun o h => (HOFF.out o h).below hlw
            have hoff4 := hoff2.below hl2
            have hB3 := hB.trans (hlw.mono hsz)
            have HLR := Lib.hid (hlw.mono hsz)
            have HO3 := Lib.hid hoff3
            have HO4 := Lib.hid hoff4
            have HB3 := Lib.hid hB3
            have HR2 := Lib.hid hR
            have HV := Lib.hid hv
            clear hR HRR c1 hoff1 hoff2 hts hok hl1 hl2 hlw hoff3 hoff4 hB3 hB1 hv
            go_wp2_with (at_builtin; refine wpList_append_os rfl _ _ 23 rfl w.heap.size 85 i0 Try.underlying23 hi hz0 hz1 hz2 LA q lc os rfl hown1 _ 1 1 (w1.heap.size + 2) [⟨kk, DA, dn, dc, d⟩] rfl hsrc (by omega) HB3.out.size ?_; intro A2 c2 w2 hown2 hgr hob; refine Hid.out ?_)
            refine Lib.hid ?_
            have hB4 : Below w.heap.size w w2 := HB3.out.grown hgr HB3.out.size fun x e => (hltO x e).1
            have hBr : Below w.heap.size wr w2 := HLR.out.grown hgr HB3.out.size fun x e => (hltO x e).1
            have HBB := Lib.hid ((HB.out.below hBr).behind hs2)
            have hoff5 : ∀ o ∈ os ++ [⟨kk, DA, dn, dc, d⟩], Od.off w2 (Value.slice A2 (q + 1) c2).ownBlock o := fun o h => by
              rcases List.mem_append.1 h with h | h
              · exact (HO3.out o h).grown hgr hob
              · obtain rfl : o = ⟨kk, DA, dn, dc, d⟩ := by simpa using h
                exact HO4.out.grown hgr hob
            have HO5 := Lib.hid hoff5
            have HF3 : Hid (∀ o ∈ os ++ [⟨kk, DA, dn, dc, d⟩], Od.from_ w.heap.size o) := Lib.hid fun o h => by
              rcases List.mem_append.1 h with h | h
              · exact HF.out o h
              · obtain rfl : o = ⟨kk, DA, dn, dc, d⟩ := by simpa using h
                exact HF2.out
            have HOWN2 := Lib.hid hown2
            clear hown2 hgr hob hoff5 hsrc hown1 hBr
            go_wp2_with fail
            refine ⟨⟨_, n - sz, c - sz, xs.drop sz, f, A2, q + 1, c2, os ++ [⟨kk, DA, dn, dc, d⟩], rfl, rfl, ?_, by omega, by omega, by omega, by omega, HOWN2.out, HO5.out, Lib.hid ?_, hB4, HF3⟩, by simp only [valLen]; omega⟩
            · split
              · exact ⟨HBB.out.len, HBB.out.all, fun h => by omega⟩
              · exact HBB.out
            · have hv2 : Od.v ⟨kk, DA, dn, dc, d⟩ = ob := HV.out
              rw [HR2.out, List.map_append, List.map_cons, List.map_nil, hv2]
          · rw [if_neg he] at hR
            have HR2 := Lib.hid hR
            have hB2 := hB.trans (hB1.mono hsz)
            have heb : (er != 0) = true := by simpa using he
            obtain ⟨kk, DA, dn, dc, d⟩ := od
            clear hR HRR c1 hoff1 hB1 hts
            go_wp2_with fail
            go_ret2
            exact GivesO.err er HR2.out (hB2.alloc hB2.size _)
      · obtain rfl : n = 0 := by omega
        obtain rfl : xs = [] := List.eq_nil_of_length_eq_zero hb.len
        have hR : R = (os.map Od.v, 0) := by
          rw [HR.out]
          cases f with
          | zero => omega
          | succ f => simp [parseO, joinO]
        have HRR := Lib.hid hR
        have hlen := hown.len
        clear hR HR
        go_wp2_with fail
        go_ret2
        rw [HRR.out]
        refine ⟨LA, lc, os, ?_, rfl, ?_, hB, by simpa [hlen] using OFrom.own hown (Nat.le_refl _) HF.out⟩
        · simp [hlen]
        · simpa [hlen] using hown.lies (Nat.le_refl _) fun o h => (hoff o h).ok
end Go.Proofs.Ytkbgfddicpnbmaa
