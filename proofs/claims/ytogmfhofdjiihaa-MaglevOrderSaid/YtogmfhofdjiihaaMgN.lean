/- Stage 17: closures in a slice; all have their turns, over and over, till one finds no slot. Conditions: 2 to 1000 slots. -/
import Derived.Test.YtogmfhofdjiihaaMgM
set_option maxRecDepth 100000
namespace Go.Proofs.Ytogmfhofdjiihaa
open Go.RowKit
set_option linter.unusedVariables false

/-- closures in a slice -/
def funE : Elt Nat := ⟨fun x => [tkV x], fun _ => True, 1, by decide, fun _ _ => rfl, fun a u hu => by
  obtain rfl := List.mem_singleton.1 hu
  rfl, 0, trivial⟩
section
variable {w w' : World} {B b o n g k M W : Nat} {A : Option Addr} {l : List Nat} {t : List Int}
theorem fun_cell (h : Es funE w B (some ⟨b, o, none⟩) n l) {i : Nat} (hi : i < n) : w.cell? ⟨b, o + i, none⟩ = some (tkV (l.getD i 0)) := by
  have h1 := (h.at_ hi).2 0 _ rfl
  simpa [funE] using h1
theorem fun_apart (h : Es funE w B (some ⟨b, o, none⟩) n l) (hn : 0 < n) (hT : BlkN w 3 g t) : b ≠ g := by
  rintro rfl
  have h1 := fun_cell h hn
  rw [hT.cell] at h1
  obtain ⟨_, h2⟩ := List.getElem?_eq_some_iff.1 h1
  simp [cellsN, tkV] at h2
theorem fun_apart2 (h : Es funE w B (some ⟨b, o, none⟩) n l) (hn : 0 < n) {v : Value} (hv : ∀ x, v ≠ tkV x) {ty : TypeId} (hT : BlkV w ty k [v]) : b ≠ k := by
  rintro rfl
  have h1 := fun_cell h hn
  rw [hT.cell] at h1
  obtain ⟨h3, h2⟩ := List.getElem?_eq_some_iff.1 h1
  have h4 : o + 0 = 0 := by simpa using h3
  simp [h4] at h2
  exact hv _ h2
end
/-- how all lies in a sweep -/
structure RndI (w : World) (B g M W : Nat) (A : Option Addr) (t : List Int) (hs : List Nat) (seq : List Int) (ord : Int → List Int) : Prop where
  tab : BlkN w 3 g t
  turn : ∀ i, i < W → TurnI w g M t (hs.getD i 0) (seq.getD i 0) (ord (seq.getD i 0))
  es : Es funE w B A W hs
/-- what never changes -/
structure RndS (g W : Nat) (hs : List Nat) (seq : List Int) : Prop where
  sp : ∀ i j, i < W → j < W → (hs.getD i 0 = hs.getD j 0 ∧ seq.getD i 0 = seq.getD j 0) ∨ hs.getD i 0 + 3 ≤ hs.getD j 0 ∨ hs.getD j 0 + 3 ≤ hs.getD i 0
  gt : ∀ i, i < W → g < hs.getD i 0
theorem RndI.took {w w' : World} {B g M W : Nat} {A : Option Addr} {t : List Int} {hs : List Nat} {seq : List Int} {ord : Int → List Int} (h : RndI w B g M W A t hs seq ord) (hS : RndS g W hs seq) {i : Nat} (hi : i < W) (hn : seq.getD i 0 ≠ 0)
    (ht : TookI w w' g M t (hs.getD i 0) (seq.getD i 0) (ord (seq.getD i 0))) : RndI w' B g M W A (turnP (ord (seq.getD i 0)) t (seq.getD i 0)) hs seq ord := by
  obtain ⟨q, j, A2, _, _, _, _, hob, _⟩ := (h.turn i hi).ob
  refine ⟨ht.tab, fun k hk => ?_, ?_⟩
  · rcases hS.sp k i hk hi with ⟨e1, e2⟩ | e
    · rw [e1, e2]
      exact ht.me
    · exact (h.turn k hk).other (hS.gt k hk) e hob hn ht.rest
  · obtain ⟨b, o, e, hb, hc⟩ := h.es.mem (by omega)
    subst e
    have h1 := fun_apart h.es (by omega) h.tab
    have h2 := fun_apart2 h.es (by omega) (fun x => by simp [tkV]) hob
    exact ⟨h.es.len, h.es.all, fun _ => ⟨b, o, rfl, hb, fun j v hv => (World.cell?_of_block (ht.rest b h1 h2)).trans (hc j v hv)⟩⟩

set_option maxHeartbeats 3200000 in
set_option maxRecDepth 100000 in
theorem mgfill_some (B g M W : Nat) (A : Option Addr) (c : Nat) (hs : List Nat) (seq : List Int) (ord : Int → List Int) (w : World) (hW : 0 < W) (hW2 : W ≤ 1000) (hM : M ≤ 1000) (hT : TurnsP ord seq M) (hl : seq.length = W)
    (hol : ∀ n ∈ seq, (ord n).length = M) (hS : RndS g W hs seq) (h : RndI w B g M W A (afterP ord seq M 0) hs seq ord) :
    Calls Try.prog 17 #[.slice A W c] w fun e w' => e = .returned (.tuple #[]) ∧ BlkN w' 3 g (afterP ord seq M M) ∧ Below g w w' := by
  have HS := Lib.hid hS
  have HI := Lib.hid h
  have HN := Lib.hid (show ∀ i, i < W → seq.getD i 0 ∈ seq from fun i hi => by
    have e : seq.getD i 0 = seq[i] := by simp [List.getD, show i < seq.length by omega]
    rw [e]
    exact List.getElem_mem _)
  have HNZ := Lib.hid (fun i hi => hT.node _ (HN.out i hi))
  have HOR := Lib.hid (fun i hi => hT.ord _ (HN.out i hi))
  have HOL := Lib.hid (fun i hi => hol _ (HN.out i hi))
  have HFU := Lib.hid (show ∀ k, fullP (afterP ord seq M k) = true ↔ M ≤ k from afterP_iff hT)
  have HTL := Lib.hid (afterP_len (o := ord) (seq := seq) (M := M))
  have HTS := Lib.hid (show ∀ q i, i < W → afterP ord seq M (q * W + (i + 1)) = turnP (ord (seq.getD i 0)) (afterP ord seq M (q * W + i)) (seq.getD i 0) from fun q i hi => by
    have e : cycP seq (q * W + i) = seq.getD i 0 := by
      unfold cycP
      rw [hl, Nat.mul_comm, Nat.mul_add_mod, Nat.mod_eq_of_lt hi]
    have h1 := afterP_succ (o := ord) (seq := seq) (M := M) (q * W + i)
    unfold stepP at h1
    rw [e] at h1
    exact h1)
  clear hT hl hol hS h HN
  generalize afterP ord seq M = T at *
  go_enter Try.func17, Try.ntmps17
  go_wp2_with fail
  go_step3
  go_wp2_with fail
  go_step3
  go_wp2_with fail
  go_loopg [] M (fun gk wr => ∃ q, gk = M - q * W ∧ Hid (q * W ≤ M) ∧ Hid (RndI wr B g M W A (T (q * W)) hs seq ord) ∧ Hid (Below g w wr))
  case atStart => exact ⟨0, by omega, Lib.hid (by omega), by rw [Nat.zero_mul]; exact HI, Lib.hid (Below.refl _ _)⟩
  case round =>
    clear HI
    obtain ⟨q, hgk, HQ, HI, HB⟩ := hrel
    go_wp2_with fail
    obtain ⟨wo, rfl⟩ : ∃ wo, wo = wr := ⟨_, rfl⟩
    go_loopg [9] W (fun g2 v wr => ∃ i : Nat, i + g2 = W ∧ v = .int .i64 i ∧ Hid (q * W + i ≤ M) ∧ Hid (RndI wr B g M W A (T (q * W + i)) hs seq ord) ∧ Hid (Below g w wr))
    case atStart => exact ⟨0, by omega, rfl, HQ, HI, HB⟩
    case round =>
      clear HI HB HQ
      obtain ⟨i, hi, rfl, HQ, HI, HB⟩ := hrel
      by_cases hlt : i < W
      · obtain ⟨b, o, rfl, hbb, hcc⟩ := HI.out.es.mem (by omega)
        have c0 := fun_cell HI.out.es hlt
        unfold tkV at c0
        have HTK := Lib.hid (mgtake_any g M (T (q * W + i)) (hs.getD i 0) (seq.getD i 0) (ord (seq.getD i 0)) wr hM (HS.out.gt i hlt) (HNZ.out i hlt) HI.out.tab (HTL.out _) (HOR.out i hlt) (HOL.out i hlt) (HI.out.turn i hlt))
        have hlt2 : (i : Int) < W := by omega
        clear hbb hcc
        unfold tkA at c0 HTK
        go_wp2_with fail
        refine HTK.out.mono ?_
        rintro e w2 ⟨rfl, htk⟩
        have HI2 := Lib.hid (HI.out.took HS.out hlt (HNZ.out i hlt) htk)
        rw [← HTS.out q i hlt] at HI2
        have HB2 := Lib.hid (HB.out.trans htk.low)
        by_cases hf : M ≤ q * W + i
        · rw [(HFU.out _).2 hf]
          have hqi : q * W + i = M := by have := HQ.out; omega
          have HTT := Lib.hid htk.tab
          rw [turnP_full (HOR.out i hlt) (HTL.out _) (fullP_iff.1 ((HFU.out _).2 hf)), hqi] at HTT
          clear HI HTK htk HI2 HB c0 hqi hf
          go_wp2_with fail
          rw [Exit.noGoto_normal]
          go_end0
          exact ⟨rfl, HTT.out, HB2.out⟩
        · have hff : fullP (T (q * W + i)) = false := by
            rw [Bool.eq_false_iff]
            exact fun h => hf ((HFU.out _).1 h)
          rw [hff]
          have HQ2 : Hid (q * W + (i + 1) ≤ M) := Lib.hid (by omega)
          clear HI HTK htk HB HQ c0 hf hff
          go_wp2_with fail
          go_roundg (W - (i + 1))
          case measure => omega
          case rel => exact ⟨i + 1, by omega, by go_num, HQ2, HI2, HB2⟩
      · obtain rfl : i = W := by omega
        have HQ2 : Hid ((q + 1) * i ≤ M) := Lib.hid (by rw [Nat.add_mul, Nat.one_mul]; exact HQ.out)
        have e : q * i + i = (q + 1) * i := by rw [Nat.add_mul, Nat.one_mul]
        rw [e] at HI
        clear HQ e
        go_wp2_with fail
        go_roundg (M - (q + 1) * i)
        case measure =>
          have := HQ2.out
          rw [Nat.add_mul, Nat.one_mul] at *
          omega
        case rel => exact ⟨q + 1, rfl, HQ2, HI, HB⟩
end Go.Proofs.Ytogmfhofdjiihaa
