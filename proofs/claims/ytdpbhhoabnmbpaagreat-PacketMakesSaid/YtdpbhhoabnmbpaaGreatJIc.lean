/- Texts joined.
  Messages by value and in memory: their cells, loaded and stored; whether a number lies between two others. No condition.
  What icmp.Put answers: the bytes of a message. Conditions: addresses are 16 bytes; the body is at most 2^47 - 8192 bytes long.
  What the document's Put answers: the bytes of a message. Conditions: addresses are 16 bytes; the body is at most 2^47 - 8192 bytes long.
  What icmp.Parse answers: the message of bytes. Conditions: addresses are 16 bytes; at most 2^47 - 4096 bytes.
  What the document's Parse answers: the message of bytes. Conditions: addresses are 16 bytes; at most 2^47 - 4096 bytes.
  What the document's Same answers of two messages that say the same: true. And the answers to an echo. Condition: the body is at most 2^47 - 4096 bytes long.
  What icmp.About answers: the error about a packet. Condition: at most 2^47 - 4096 bytes.
  What the document's About answers: the error about a packet. Condition: at most 2^47 - 4096 bytes.
  What the laws' own small test of messages answers: true. And what was put is parsed as what it was. No condition.
-/
import Derived.Test.YtdpbhhoabnmbpaaGreatVals
import Derived.Test.YtdpbhhoabnmbpaaGreatJCk
import Derived.Test.YtdpbhhoabnmbpaaGreatJReg
import Derived.Test.YtdpbhhoabnmbpaaGreatJOct
import Derived.Test.YtdpbhhoabnmbpaaGreatApp
import Derived.Test.YtdpbhhoabnmbpaaGreatSlc
import Derived.Test.YtdpbhhoabnmbpaaGreatJSx
set_option maxRecDepth 100000
namespace Go.Proofs.YtdpbhhoabnmbpaaGreat
open Go.RowKit
set_option linter.unusedVariables false

/-- a message as it lies: its numbers; where its body is, how long, with how much room, and it -/
structure Mg where
  kd : Int
  cd : Int
  wd : Int
  bA : Option Addr
  bm : Nat
  bc : Nat
  bs : List Int
/-- what a message says -/
structure Mb where
  kd : Int
  cd : Int
  wd : Int
  bs : List Int
def Mg.v (m : Mg) : Mb := ⟨m.kd, m.cd, m.wd, m.bs⟩
/-- its numbers are as their types ask, its body lies below block B -/
structure Mg.ok (w : World) (B : Nat) (m : Mg) : Prop where
  kd : i64ok m.kd
  cd : i64ok m.cd
  wd : 0 ≤ m.wd ∧ m.wd < 4294967296
  bm : m.bm ≤ 140737488351232
  bs : Bs w B m.bA m.bm m.bs
section
variable {w w' : World} {B B' : Nat} {m : Mg}
theorem Mg.ok.keep (h : m.ok w B) (hk : ∀ p : Addr, p.block < B → w'.cell? p = w.cell? p) : m.ok w' B := ⟨h.kd, h.cd, h.wd, h.bm, h.bs.keep hk⟩
theorem Mg.ok.more (h : m.ok w B) (hB : B ≤ B') : m.ok w B' := ⟨h.kd, h.cd, h.wd, h.bm, h.bs.more hB⟩
theorem Mg.ok.below' (h : m.ok w B) (hb : Below B w w') (hB : B ≤ B') : m.ok w' B' := (h.keep fun _ hp => hb.cell hp).more hB
theorem Mg.ok.low (h : m.ok w w.heap.size) (hb : Low w w') : m.ok w' w'.heap.size := h.below' hb hb.size
end

def msgC (m : Mg) : List Value := [.int .i64 m.kd, .int .i64 m.cd, .int .u32 m.wd, .slice m.bA m.bm m.bc]
def msgV (m : Mg) : Value := .agg (msgC m).toArray
def zeroM : Mg := ⟨0, 0, 0, none, 0, 0, []⟩
def zeroMb : Mb := ⟨0, 0, 0, []⟩
theorem zeroM_ok (w : World) (B : Nat) : zeroM.ok w B := ⟨by simp [zeroM, i64ok], by simp [zeroM, i64ok], by simp [zeroM], by simp [zeroM], Bs.nil _ _ _⟩
theorem msgC_length (m : Mg) : (msgC m).length = 4 := rfl
theorem msgC_one (m : Mg) : (msgC m).toArray.all (·.oneCell') = true := by simp [msgC, Value.oneCell']
theorem msg_size : (Tryz.prog.info? 36).map (·.size) = some 4 := by kernel_rfl
theorem msg_zero : (Tryz.prog.info? 36).map (·.zero) = some (some (.agg (msgC zeroM).toArray)) := by kernel_rfl

/-- block g is just the message m -/
abbrev BlkM (w : World) (g : Nat) (m : Mg) : Prop := BlkV w 36 g (msgC m)
theorem BlkM.cells {w : World} {g : Nat} {m : Mg} (h : BlkM w g m) :
    w.cell? ⟨g, 0, none⟩ = some (.int .i64 m.kd) ∧ w.cell? ⟨g, 1, none⟩ = some (.int .i64 m.cd) ∧ w.cell? ⟨g, 2, none⟩ = some (.int .u32 m.wd) ∧ w.cell? ⟨g, 3, none⟩ = some (.slice m.bA m.bm m.bc) :=
  ⟨h.cell 0, h.cell 1, h.cell 2, h.cell 3⟩
section
variable {ops : Array Oper} {rest : List Oper} {o : Oper} {a : Act} {w : World} {Q : Exit → Act → World → Prop}
theorem wpList_box_msg (hgd : o.guard = none) (x : Operand) (ho : o.op = .box 36 x) (m : Mg) (hx : a.eval x = .agg (msgC m).toArray)
    (hk : ∀ w', BlkM w' w.heap.size m → Low w w' → w'.heap.size = w.heap.size + 1 → wpList Tryz.prog ops Q rest (a.put o.dst (.pointer (some ⟨w.heap.size, 0, none⟩))) w') : wpList Tryz.prog ops Q (o :: rest) a w :=
  wpList_box_v hgd 36 x ho (msgC m) hx hk
theorem wpList_alloc_msg (hgd : o.guard = none) (ho : o.op = .alloc 36)
    (hk : ∀ w', BlkM w' w.heap.size zeroM → Low w w' → w'.heap.size = w.heap.size + 1 → wpList Tryz.prog ops Q rest (a.put o.dst (.pointer (some ⟨w.heap.size, 0, none⟩))) w') : wpList Tryz.prog ops Q (o :: rest) a w :=
  wpList_alloc_v hgd 36 ho (msgC zeroM) msg_zero hk
theorem wpList_load_msg (hgd : o.guard = none) (x : Operand) (ho : o.op = .load 36 x) (g : Nat) (hx : a.eval x = .pointer (some ⟨g, 0, none⟩)) (m : Mg) (hb : BlkM w g m)
    (hk : wpList Tryz.prog ops Q rest (a.put o.dst (.agg (msgC m).toArray)) w) : wpList Tryz.prog ops Q (o :: rest) a w :=
  wpList_load_row hgd 36 x ho g hx _ (msgC m).toArray (0, 0) _ hb Tryz.underlying36 rfl (by rw [msg_size]; rfl) hk
/-- a whole message is stored: no other block changes -/
theorem wpList_store_msg (hgd : o.guard = none) (x y : Operand) (ho : o.op = .store 36 x y) (g : Nat) (hx : a.eval x = .pointer (some ⟨g, 0, none⟩)) (m : Mg) (hy : a.eval y = .agg (msgC m).toArray) (old : Mg) (hb : BlkM w g old)
    (hk : ∀ w', BlkM w' g m → Below g w w' → (∀ p : Addr, p.block ≠ g → w'.cell? p = w.cell? p) → w'.heap.size = w.heap.size → wpList Tryz.prog ops Q rest (a.put o.dst undef) w') : wpList Tryz.prog ops Q (o :: rest) a w :=
  wpList_store_row hgd 36 x y ho g _ hx hy _ _ hb (by rw [msg_size]; rfl) rfl (msgC_one m) (hk _ (BlkV.setRow hb _) (low_setRow _ _ _ (Nat.le_refl _)) (fun p hp => World.cell?_of_block (by simp [World.setRow, Array.getElem?_modify, Ne.symm hp])) (by simp))
end
/-- a message and a value are handed back -/
def GivesM (w : World) (r : Mb) (x : Value) (e : Ending) (w' : World) : Prop :=
  ∃ m : Mg, e = .returned (.tuple #[msgV m, x]) ∧ m.v = r ∧ m.ok w' w'.heap.size ∧ Below w.heap.size w w'
theorem GivesM.of {w w' : World} {r : Mb} {x y : Value} {m : Mg} (hr : m.v = r) (hx : x = y) (hk : m.ok w' w'.heap.size) (hB : Below w.heap.size w w') : GivesM w r x (.returned (.tuple #[msgV m, y])) w' := by
  subst hx
  exact ⟨m, rfl, hr, hk, hB⟩
/-- its body lies in memory from block lo on -/
def MFrom (lo : Nat) (m : Mg) : Prop := 0 < m.bm → ∃ b o, m.bA = some ⟨b, o, none⟩ ∧ lo ≤ b
theorem zeroM_from (lo : Nat) : MFrom lo zeroM := fun h => absurd h (by show ¬ 0 < 0; omega)
theorem MFrom.at_ {lo g n c : Nat} {kd cd wd : Int} {bs : List Int} (h : lo ≤ g) : MFrom lo ⟨kd, cd, wd, some ⟨g, 0, none⟩, n, c, bs⟩ := fun _ => ⟨g, 0, rfl, h⟩
theorem MFrom.own {t : TypeId} {w : World} {base lo n c k : Nat} {A : Option Addr} {ys bs : List Int} {kd cd wd : Int} (h : OwnB t w base A n c ys) (hl : lo ≤ base) : MFrom lo ⟨kd, cd, wd, A, n, k, bs⟩ := fun hn => by
  obtain ⟨g, cap, hv, hbg, _⟩ := h.1.form hn
  have hA : A = some ⟨g, 0, none⟩ := by injection hv
  exact ⟨g, 0, hA, by omega⟩
/-- a message that lies elsewhere stays where a block changes -/
theorem Mg.ok.other {w w' : World} {B lo g : Nat} {m : Mg} (h : m.ok w B) (hf : MFrom lo m) (hg : g < lo) (hk : ∀ p : Addr, p.block ≠ g → w'.cell? p = w.cell? p) : m.ok w' B :=
  ⟨h.kd, h.cd, h.wd, h.bm, ⟨h.bs.len, h.bs.all, fun hn => by
    obtain ⟨b, o, e, hb, hc⟩ := h.bs.mem hn
    obtain ⟨b', o', e', hl⟩ := hf hn
    rw [e] at e'
    injection e' with e'
    injection e' with e1 e2 _
    subst e1 e2
    exact ⟨b, o, e, hb, fun i hi => (hk _ (by show b ≠ g; omega)).trans (hc i hi)⟩⟩⟩
/-- a message and a value are handed back, the message's body in new memory -/
def GivesMF (w : World) (r : Mb) (x : Value) (e : Ending) (w' : World) : Prop :=
  ∃ m : Mg, e = .returned (.tuple #[msgV m, x]) ∧ m.v = r ∧ m.ok w' w'.heap.size ∧ Below w.heap.size w w' ∧ MFrom w.heap.size m
theorem GivesMF.of {w w' : World} {r : Mb} {x y : Value} {m : Mg} (hr : m.v = r) (hx : x = y) (hk : m.ok w' w'.heap.size) (hB : Below w.heap.size w w') (hf : MFrom w.heap.size m) : GivesMF w r x (.returned (.tuple #[msgV m, y])) w' := by
  subst hx
  exact ⟨m, rfl, hr, hk, hB, hf⟩
theorem ret_msg {fn : Func} {p q : Tmp} {R : Ending → World → Prop} {tmps : Array Value} {df : List Deferred} {w : World} {g : Nat} {m : Mg} {x : Value} (hfn : fn.results = #[.cell p 36, .tmp q]) (hp : tmps.getD p undef = .pointer (some ⟨g, 0, none⟩)) (hq : tmps.getD q undef = x)
    (hb : BlkM w g m) (hR : R (.returned (.tuple #[msgV m, x])) w) (hd : df = []) : bodyPost Tryz.prog fn R .ret ⟨tmps, df⟩ w :=
  bodyPost_ret (results_cell_tmp hfn tmps w g _ _ _ _ _ hp hq hb Tryz.underlying36 rfl (by rw [msg_size]; rfl)) hd hR

/-- what lies in a block of its own stays where another block changes -/
theorem Blk.other {w w' : World} {t : TypeId} {g g' : Nat} {ys : List Int} (h : Blk w t g ys) (ha : AllB ys) (hg : g ≠ g') (hk : ∀ p : Addr, p.block ≠ g' → w'.cell? p = w.cell? p) {B n : Nat} (hB : g < B) (hn : ys.length = n) : Bs w' B (some ⟨g, 0, none⟩) n ys :=
  ⟨hn, ha, fun _ => ⟨g, 0, rfl, hB, fun i hi => by rw [hk _ hg, Nat.zero_add, h.cell i, cellsB_get (by omega)]⟩⟩
theorem OwnB.other {w w' : World} {t : TypeId} {base n c g' : Nat} {A : Option Addr} {ys : List Int} (h : OwnB t w base A n c ys) (hg : g' < base) (hk : ∀ p : Addr, p.block ≠ g' → w'.cell? p = w.cell? p) {B : Nat} (hB : w.heap.size ≤ B) : Bs w' B A n ys := by
  have hb := h.bs (Nat.le_refl _)
  refine ⟨hb.len, hb.all, fun hn => ?_⟩
  obtain ⟨b, o, e, hlt, hc⟩ := hb.mem hn
  obtain ⟨g, cap, hv, hbg, _⟩ := h.1.form hn
  have hA : A = some ⟨g, 0, none⟩ := by injection hv
  rw [hA] at e
  injection e with e
  injection e with e1 e2 _
  subst e1 e2
  exact ⟨_, _, hA, by omega, fun i hi => (hk _ (by show g ≠ g'; omega)).trans (hc i hi)⟩

/-- does a number lie between two others? -/
def inB (lo hi n : Int) : Bool := decide (lo ≤ n ∧ n ≤ hi)
def spanF (lo hi : Int) : Value := .func (.func 166) #[.agg #[.int .i64 lo, .int .i64 hi]] #[]
set_option maxHeartbeats 400000 in
theorem span_has (lo hi n : Int) (w : World) : Calls Tryz.prog 166 #[.agg #[.int .i64 lo, .int .i64 hi], .int .i64 n] w fun e w' => e = .returned (.bool (inB lo hi n)) ∧ Below w.heap.size w w' := by
  by_cases h1 : lo ≤ n
  · have d1 : decide (lo ≤ n) = true := decide_eq_true h1
    have HX := Lib.hid (show inB lo hi n = decide (n ≤ hi) by unfold inB; simp [h1])
    clear h1
    go_enter Tryz.func166, Tryz.ntmps166
    go_wp2_with fail
    go_ret
    exact ⟨by rw [HX.out]; rfl, (Below.refl _ _).alloc (Nat.le_refl _) _⟩
  · have d1 : decide (lo ≤ n) = false := decide_eq_false h1
    have HX := Lib.hid (show inB lo hi n = false by unfold inB; simp [h1])
    clear h1
    go_enter Tryz.func166, Tryz.ntmps166
    go_wp2_with fail
    go_ret
    exact ⟨by rw [HX.out]; rfl, (Below.refl _ _).alloc (Nat.le_refl _) _⟩
theorem asByte_any (w : World) : Calls Tryz.prog 164 #[] w fun e w' => e = .returned (spanF 0 255) ∧ w' = w := by
  go_enter Tryz.func164, Tryz.ntmps164
  go_wp2_with fail
  go_ret
  exact ⟨rfl, rfl⟩
end Go.Proofs.YtdpbhhoabnmbpaaGreat

namespace Go.Proofs.YtdpbhhoabnmbpaaGreat
open Go.RowKit
set_option linter.unusedVariables false

/-- can a message be? its bytes with a sum of 0; its bytes -/
def okM (x : Mb) : Bool := inB 0 255 x.kd && inB 0 255 x.cd
def flatM (x : Mb) : List Int := [x.kd, x.cd, 0, 0] ++ four x.wd ++ x.bs
def sumM (s d : List Int) (x : Mb) : Int := nt (chk s d 58 (flatM x))
def putM (s d : List Int) (x : Mb) : List Int := if okM x = true then ((flatM x).set 2 (sumM s d x / 256 % 256)).set 3 (sumM s d x % 256) else []
theorem okM_yes {x : Mb} (h : okM x = true) : (0 ≤ x.kd ∧ x.kd ≤ 255) ∧ (0 ≤ x.cd ∧ x.cd ≤ 255) := by
  unfold okM inB at h
  simpa using h
theorem flatM_len (x : Mb) : (flatM x).length = x.bs.length + 8 := by simp [flatM, four]
theorem sumM_range (s d : List Int) (x : Mb) : 0 ≤ sumM s d x ∧ sumM s d x ≤ 65535 := nt_range _

/-- a slice of bytes is handed back, and what its room is -/
def GivesY (w : World) (ys : List Int) (e : Ending) (w' : World) : Prop :=
  ∃ A c, e = .returned (.slice A ys.length c) ∧ Bs w' w'.heap.size A ys.length ys ∧ (ys.length ≤ c ∧ c ≤ 9223372036854775807) ∧ Below w.heap.size w w'
theorem GivesY.of {w w' : World} {ys zs : List Int} {A : Option Addr} {n c : Nat} (hy : ys = zs) (hb : Bs w' w'.heap.size A n zs) (h1 : n ≤ c) (h2 : c ≤ 9223372036854775807) (hB : Below w.heap.size w w') :
    GivesY w ys (.returned (.slice A n c)) w' := by
  subst hy
  obtain rfl := hb.len
  exact ⟨A, c, rfl, hb, ⟨h1, h2⟩, hB⟩
set_option maxRecDepth 100000 in
set_option maxHeartbeats 1600000 in
theorem icput_any (s d : List Int) (m : Mg) (w : World) (hs : s.length = 16) (hd : d.length = 16) (vs : AllB s) (vd : AllB d) (hm : m.ok w w.heap.size) (hbm : m.bm ≤ 140737488347136) :
    Calls Tryz.prog 162 #[addrV s, addrV d, msgV m] w (GivesY w (putM s d m.v)) := by
  unfold addrV msgV
  have HM := Lib.hid hm
  have HS := Lib.hid hs
  have HD := Lib.hid hd
  have VS := Lib.hid vs
  have VD := Lib.hid vd
  have HB0 := Lib.hid (box_first w s d 24 24)
  have HB1 := Lib.hid (box_second w s d 24 24)
  have hL := low2 w s d 24 24
  have hz2 : ((w.alloc (.cells (cellsB s).toArray 24)).alloc (.cells (cellsB d).toArray 24)).heap.size = w.heap.size + 2 := by simp
  clear hs hd hm vs vd
  go_enter Tryz.func162, Tryz.ntmps162
  go_wp2_with ((with_reducible refine wpList_box_msg rfl (.tmp 2) rfl m rfl ?_); intro w3 HK hl3 hz3; refine Hid.out ?_)
  refine Lib.hid ?_
  rw [hz2] at HK hz3
  replace HB0 := Lib.hid (HB0.out.below hl3 HB0.out.lt)
  replace HB1 := Lib.hid (HB1.out.below hl3 HB1.out.lt)
  replace hL := hL.trans hl3
  replace HK := Lib.hid HK
  clear hl3 hz2 hz3
  go_wp2_with fail
  refine (asByte_any w3).mono ?_
  rintro e w4 ⟨rfl, rfl⟩
  unfold spanF
  have c0 := (BlkM.cells HK.out).1
  go_wp2_with fail
  refine (span_has 0 255 m.kd w4).mono ?_
  rintro e w5 ⟨rfl, hB5⟩
  replace HB0 := Lib.hid (HB0.out.below hB5 HB0.out.lt)
  replace HB1 := Lib.hid (HB1.out.below hB5 HB1.out.lt)
  replace HK := Lib.hid (HK.out.below hB5 HK.out.lt)
  replace hL := Low.trans hL hB5
  clear hB5 c0
  cases h1 : inB 0 255 m.kd
  · have HO := Lib.hid (show putM s d m.v = [] by unfold putM okM; rw [show inB 0 255 m.v.kd = false from h1]; rfl)
    clear h1
    go_wp2_with fail
    go_ret
    exact GivesY.of HO.out (Bs.nil _ _ _) (Nat.le_refl _) (by simp) hL
  · have c1 := (BlkM.cells HK.out).2.1
    go_wp2_with fail
    refine (span_has 0 255 m.cd w5).mono ?_
    rintro e w6 ⟨rfl, hB6⟩
    replace HB0 := Lib.hid (HB0.out.below hB6 HB0.out.lt)
    replace HB1 := Lib.hid (HB1.out.below hB6 HB1.out.lt)
    replace HK := Lib.hid (HK.out.below hB6 HK.out.lt)
    replace hL := Low.trans hL hB6
    clear hB6 c1
    cases h2 : inB 0 255 m.cd
    · have HO := Lib.hid (show putM s d m.v = [] by unfold putM okM; rw [show inB 0 255 m.v.kd = true from h1, show inB 0 255 m.v.cd = false from h2]; rfl)
      clear h1 h2
      go_wp2_with fail
      go_ret
      exact GivesY.of HO.out (Bs.nil _ _ _) (Nat.le_refl _) (by simp) hL
    · have hok : okM m.v = true := by unfold okM; rw [show inB 0 255 m.v.kd = true from h1, show inB 0 255 m.v.cd = true from h2]; rfl
      have HO := Lib.hid (show putM s d m.v = ((flatM m.v).set 2 (sumM s d m.v / 256 % 256)).set 3 (sumM s d m.v % 256) by unfold putM; rw [if_pos hok])
      have HX := Lib.hid (show flatM m.v = [m.kd, m.cd, 0, 0] ++ four m.wd ++ m.bs from rfl)
      have HF := Lib.hid (show sumM s d m.v = nt (chk s d 58 (flatM m.v)) from rfl)
      have HSR := Lib.hid (sumM_range s d m.v)
      obtain ⟨r1, r2⟩ := okM_yes hok
      replace r1 : 0 ≤ m.kd ∧ m.kd ≤ 255 := r1
      replace r2 : 0 ≤ m.cd ∧ m.cd ≤ 255 := r2
      have hba : AllB [m.kd, m.cd, 0, 0] := AllB.cons r1.1 (by omega) (.cons r2.1 (by omega) (.cons (by omega) (by omega) (.cons (by omega) (by omega) .nil)))
      have HBA := Lib.hid hba
      clear h1 h2 hok hba
      go_wp2_with fail
      refine wp_region_plan (.rd 0 (.rd 1 (.rd 2 (.rd 3 (.rd 4 (.rd 5 (.rd 7 (.rd 8 (.rd 10 (.rd 11 (.fork 6 (.act 9 (.act 12 (.act 13 (.rd 14 (.done))))) 9 (.act 6 (.act 12 (.act 13 (.rd 14 (.done)))))))))))))))) (by kernel_rfl) (by kernel_rfl) (fun _ _ d _ _ h => by cases d <;> exact h) (by kernel_rfl) ?_
      replace hL := hL.trans (Below.drew (Below.refl w6.heap.size w6))
      replace HB0 : Hid (Blk w6.drew 24 w.heap.size s) := HB0
      replace HB1 : Hid (Blk w6.drew 24 (w.heap.size + 1) d) := HB1
      replace HK : Hid (BlkM w6.drew (w.heap.size + 2) m) := HK
      generalize w6.drew = w7 at *
      obtain ⟨c0, c1, c2, c3⟩ := BlkM.cells HK.out
      have hlt := HK.out.lt
      have k1 : IntKind.u8.wrap m.kd = m.kd := by simp [IntKind.wrap, IntKind.bits, IntKind.signed]; omega
      have k2 : IntKind.u8.wrap m.cd = m.cd := by simp [IntKind.wrap, IntKind.bits, IntKind.signed]; omega
      clear r1 r2
      iterate 10 (refine walkP_read (v := _) rfl (by rfl) (by
        intro y hy
        have e0 := (hy.cell (p := ⟨w.heap.size + 2, 0, none⟩) hlt).trans c0; have e1 := (hy.cell (p := ⟨w.heap.size + 2, 1, none⟩) hlt).trans c1; have e2 := (hy.cell (p := ⟨w.heap.size + 2, 2, none⟩) hlt).trans c2; have e3 := (hy.cell (p := ⟨w.heap.size + 2, 3, none⟩) hlt).trans c3
        go_simp; try rfl) ?_; simp only [Act.put, List.setIfInBounds_toArray, List.set_cons_zero, List.set_cons_succ])
      clear c0 c1 c2 c3 hlt k1 k2
      refine walkP_fork ?fa ?fb
      case' fa =>
        refine walkP_act rfl (by rfl) (fun K hK => ?_)
        go_simp
        have hla := Low.alloc w7 (.cells #[.int .u8 m.kd, .int .u8 m.cd, .int .u8 0, .int .u8 0] 5)
        refine hK _ _ hla ?_
        clear hK K
        have hka : Blk (w7.alloc (.cells #[.int .u8 m.kd, .int .u8 m.cd, .int .u8 0, .int .u8 0] 5)) 5 w7.heap.size [m.kd, m.cd, 0, 0] := Blk.new w7 5 [m.kd, m.cd, 0, 0]
        have hbA := hka.bs HBA.out hka.lt rfl
        replace HB0 := Lib.hid (HB0.out.below hla HB0.out.lt)
        replace HB1 := Lib.hid (HB1.out.below hla HB1.out.lt)
        replace HK := Lib.hid (HK.out.below hla HK.out.lt)
        replace hL := Low.trans hL hla
        obtain ⟨gA, hgA⟩ : ∃ g, g = w7.heap.size := ⟨_, rfl⟩
        rw [← hgA] at hbA ⊢
        clear hla hka hgA
        generalize w7.alloc (.cells #[.int .u8 m.kd, .int .u8 m.cd, .int .u8 0, .int .u8 0] 5) = w8 at *
        refine walkP_act rfl (by rfl) (fun K hK => ?_)
        go_simp
        refine (put32_any none 0 0 m.wd [] w8 (by omega) HM.out.wd (Bs.nil _ _ _)).mono ?_
        rintro e w9 ⟨v, rfl, gB, rfl, hgB, hkB, hlB, haB, hl⟩
        go_simp
        refine hK _ _ hl ?_
        clear hK K
        have hbB : Bs w9 w9.heap.size (some ⟨gB, 0, none⟩) 4 (four m.wd) := hkB.bs haB hkB.lt hlB
        replace HB0 := Lib.hid (HB0.out.below hl HB0.out.lt)
        replace HB1 := Lib.hid (HB1.out.below hl HB1.out.lt)
        replace HK := Lib.hid (HK.out.below hl HK.out.lt)
        replace hL := Low.trans hL hl
        replace hbA := hbA.below' hl hl.size
        clear hl hkB haB hlB hgB
      case' fb =>
        refine walkP_act rfl (by rfl) (fun K hK => ?_)
        go_simp
        refine (put32_any none 0 0 m.wd [] w7 (by omega) HM.out.wd (Bs.nil _ _ _)).mono ?_
        rintro e w8 ⟨v, rfl, gB, rfl, hgB, hkB, hlB, haB, hl⟩
        go_simp
        refine hK _ _ hl ?_
        clear hK K
        have hbB : Bs w8 w8.heap.size (some ⟨gB, 0, none⟩) 4 (four m.wd) := hkB.bs haB hkB.lt hlB
        replace HB0 := Lib.hid (HB0.out.below hl HB0.out.lt)
        replace HB1 := Lib.hid (HB1.out.below hl HB1.out.lt)
        replace HK := Lib.hid (HK.out.below hl HK.out.lt)
        replace hL := Low.trans hL hl
        clear hl hkB haB hlB hgB
        refine walkP_act rfl (by rfl) (fun K hK => ?_)
        go_simp
        have hla := Low.alloc w8 (.cells #[.int .u8 m.kd, .int .u8 m.cd, .int .u8 0, .int .u8 0] 5)
        refine hK _ _ hla ?_
        clear hK K
        have hka : Blk (w8.alloc (.cells #[.int .u8 m.kd, .int .u8 m.cd, .int .u8 0, .int .u8 0] 5)) 5 w8.heap.size [m.kd, m.cd, 0, 0] := Blk.new w8 5 [m.kd, m.cd, 0, 0]
        have hbA := hka.bs HBA.out hka.lt rfl
        replace HB0 := Lib.hid (HB0.out.below hla HB0.out.lt)
        replace HB1 := Lib.hid (HB1.out.below hla HB1.out.lt)
        replace HK := Lib.hid (HK.out.below hla HK.out.lt)
        replace hL := Low.trans hL hla
        replace hbB := hbB.below' hla hla.size
        obtain ⟨gA, hgA⟩ : ∃ g, g = w8.heap.size := ⟨_, rfl⟩
        rw [← hgA] at hbA ⊢
        clear hla hka hgA
        generalize w8.alloc (.cells #[.int .u8 m.kd, .int .u8 m.cd, .int .u8 0, .int .u8 0] 5) = w9 at *
      all_goals
        refine walkP_act rfl (by rfl) (fun K hK => ?_)
        go_simp
        have hla := Low.alloc w9 (.cells #[.slice (some ⟨gA, 0, none⟩) 4 4, .slice (some ⟨gB, 0, none⟩) 4 4, .slice m.bA m.bm m.bc] 22)
        refine hK _ _ hla ?_
        clear hK K
        have hrow : (w9.alloc (.cells #[.slice (some ⟨gA, 0, none⟩) 4 4, .slice (some ⟨gB, 0, none⟩) 4 4, .slice m.bA m.bm m.bc] 22)).heap[w9.heap.size]? = some (.cells #[.slice (some ⟨gA, 0, none⟩) 4 4, .slice (some ⟨gB, 0, none⟩) 4 4, .slice m.bA m.bm m.bc] 22) := heap_alloc_new w9 _
        replace HB0 := Lib.hid (HB0.out.below hla HB0.out.lt)
        replace HB1 := Lib.hid (HB1.out.below hla HB1.out.lt)
        replace hL := Low.trans hL hla
        replace hbA := hbA.below' hla hla.size
        replace hbB := hbB.below' hla hla.size
        have hbm2 := (HM.out.low hL).bs
        obtain ⟨gR, hgR⟩ : ∃ g, g = w9.heap.size := ⟨_, rfl⟩
        rw [← hgR] at hrow ⊢
        clear hla hgR HK
        generalize w9.alloc (.cells #[.slice (some ⟨gA, 0, none⟩) 4 4, .slice (some ⟨gB, 0, none⟩) 4 4, .slice m.bA m.bm m.bc] 22) = w10 at *
        refine walkP_act rfl (by rfl) (fun K hK => ?_)
        go_simp
        refine (join3 (some ⟨gA, 0, none⟩) (some ⟨gB, 0, none⟩) m.bA 4 4 4 4 m.bm m.bc gR 22 [m.kd, m.cd, 0, 0] (four m.wd) m.bs w10 (by omega) hrow hbA hbB hbm2).mono ?_
        rintro e w11 ⟨v, rfl, g, rfl, hg, hk, hl11, ha11, hl⟩
        go_simp
        refine hK _ _ hl ?_
        clear hK K hrow hbA hbB hbm2
        have hb11 := hk.bs ha11 hk.lt hl11
        replace HB0 := Lib.hid (HB0.out.below hl HB0.out.lt)
        replace HB1 := Lib.hid (HB1.out.below hl HB1.out.lt)
        replace hL := Low.trans hL hl
        obtain ⟨n, hn⟩ : ∃ n, n = 4 + 4 + m.bm := ⟨_, rfl⟩
        rw [← hn] at hb11 ⊢
        rw [← HX.out] at hb11
        have hnb : n ≤ 140737488355328 := by omega
        have hn4 : 4 ≤ n := by omega
        clear hk ha11 hl11 hg hl hn
        generalize flatM m.v = xs at *
        iterate 1 (refine walkP_read (v := _) rfl (by rfl) (by intro y hy; go_simp; try rfl) ?_; simp only [Act.put, List.setIfInBounds_toArray, List.set_cons_zero, List.set_cons_succ])
        unfold walkP
        go_wp2_with (first
          | (with_reducible refine wpList_load_addr rfl (.tmp 3) rfl w.heap.size rfl _ s HB0.out HS.out ?_)
          | (with_reducible refine wpList_load_addr rfl (.tmp 4) rfl (w.heap.size + 1) rfl _ d HB1.out HD.out ?_))
        refine (check_any s d 58 (some ⟨g, 0, none⟩) n n xs w11 HS.out HD.out VS.out VD.out (by unfold i64ok; omega) hnb hb11).mono ?_
        rintro e w12 ⟨rfl, hl⟩
        rw [← HF.out]
        replace hL := Low.trans hL hl
        replace hb11 := hb11.below' hl hl.size
        clear hl HB0 HB1
        generalize sumM s d m.v = z at *
        go_wp2_with fail
        refine (set16_yes (some ⟨g, 0, none⟩) n n 2 2 z xs w12 hnb (by have := HSR.out; unfold i64ok; omega) hb11 rfl (by omega)).mono ?_
        rintro e w13 ⟨v, rfl, g13, rfl, hg, hk, hl13, ha13, hl⟩
        have hb13 := hk.bs ha13 hk.lt hl13
        replace hL := Low.trans hL hl
        clear hl hk ha13 hl13 hg hb11
        go_wp2_with fail
        go_ret
        exact GivesY.of HO.out hb13 (Nat.le_refl _) (by omega) hL
end Go.Proofs.YtdpbhhoabnmbpaaGreat

namespace Go.Proofs.YtdpbhhoabnmbpaaGreat
open Go.RowKit
set_option linter.unusedVariables false

/-- where a row of the call's own lies: its cells may be stored into -/
theorem OwnB.spot {t : TypeId} {w : World} {base n c : Nat} {A : Option Addr} {ys : List Int} (h : OwnB t w base A n c ys) (hn : 0 < n) :
    ∃ g, A = some ⟨g, 0, none⟩ ∧ base ≤ g ∧ g < w.heap.size ∧ (∀ i, i < n → w.cell? ⟨g, i, none⟩ = some (.int .u8 (ys.getD i 0))) ∧ (∀ i, w.frozen? ⟨g, i, none⟩ = false) ∧
      (∀ k x, k < n → 0 ≤ x → x < 256 → OwnB t (w.setCell ⟨g, k, none⟩ (.int .u8 x)) base (some ⟨g, 0, none⟩) n c (ys.set k x)) := by
  have hl := h.len
  have hb := h.bs (Nat.le_refl _)
  obtain ⟨⟨h1, h2⟩, ha⟩ := h
  rcases h2 with ⟨e, h0⟩ | ⟨g, cap, cur, hv, hbg, hg, hnc, hcm, hsz, htk⟩
  · omega
  · injection hv with hA hn' hc'
    subst hA hc'
    have hlt : g < w.heap.size := (Array.getElem?_eq_some_iff.1 hg).1
    refine ⟨g, rfl, hbg, hlt, fun i hi => ?_, fun i => by simp [World.frozen?, hg], fun k x hk h0 h1 => ⟨⟨by simp [cellsB_length, hl], .inr ⟨g, c, cur.setIfInBounds k (.int .u8 x), rfl, hbg, ?_, hnc, hcm, by simpa using hsz, ?_⟩⟩, ha.set k h0 h1⟩⟩
    · obtain ⟨b, o, e, _, hc⟩ := hb.mem hn
      injection e with e
      injection e with e1 e2 _
      subst e1 e2
      simpa using hc i hi
    · simp [World.setCell, Array.getElem?_modify, hg]
    · have e : cellsB (ys.set k x) = (cellsB ys).set k (.int .u8 x) := by simp [cellsB, List.map_set]
      rw [e, ← htk]
      simp [List.take_set]

set_option maxRecDepth 100000 in
set_option maxHeartbeats 3200000 in
theorem ricput_yes (s d : List Int) (m : Mg) (w : World) (hs : s.length = 16) (hd : d.length = 16) (vs : AllB s) (vd : AllB d) (hm : m.ok w w.heap.size) (hbm : m.bm ≤ 140737488347136) (hok : okM m.v = true) :
    Calls Tryz.prog 38 #[addrV s, addrV d, msgV m] w (GivesY w (putM s d m.v)) := by
  unfold addrV msgV
  obtain ⟨i0, hi, hz0, hz1, hz2⟩ := info_parts info5
  have HM := Lib.hid hm
  have HS := Lib.hid hs
  have HD := Lib.hid hd
  have VS := Lib.hid vs
  have VD := Lib.hid vd
  have HB0 := Lib.hid (box_first w s d 24 24)
  have HB1 := Lib.hid (box_second w s d 24 24)
  have hL := low2 w s d 24 24
  have hz2' : ((w.alloc (.cells (cellsB s).toArray 24)).alloc (.cells (cellsB d).toArray 24)).heap.size = w.heap.size + 2 := by simp
  have HO := Lib.hid (show putM s d m.v = ((flatM m.v).set 2 (sumM s d m.v / 256 % 256)).set 3 (sumM s d m.v % 256) by unfold putM; rw [if_pos hok])
  have HX := Lib.hid (show flatM m.v = [m.kd, m.cd, 0, 0] ++ four m.wd ++ m.bs from rfl)
  have HF := Lib.hid (show sumM s d m.v = nt (chk s d 58 (flatM m.v)) from rfl)
  have HSR := Lib.hid (sumM_range s d m.v)
  obtain ⟨r1, r2⟩ := okM_yes hok
  replace r1 : 0 ≤ m.kd ∧ m.kd ≤ 255 := r1
  replace r2 : 0 ≤ m.cd ∧ m.cd ≤ 255 := r2
  have hba : AllB [m.kd, m.cd, 0, 0] := AllB.cons r1.1 (by omega) (.cons r2.1 (by omega) (.cons (by omega) (by omega) (.cons (by omega) (by omega) .nil)))
  have HBA := Lib.hid hba
  clear hs hd hm vs vd hok hba
  have d1 : decide (m.kd < 0) = false := by simp; omega
  have d2 : decide (255 < m.kd) = false := by simp; omega
  have d3 : decide (m.cd < 0) = false := by simp; omega
  have d4 : decide (255 < m.cd) = false := by simp; omega
  have k1 : IntKind.u8.wrap m.kd = m.kd := by simp [IntKind.wrap, IntKind.bits, IntKind.signed]; omega
  have k2 : IntKind.u8.wrap m.cd = m.cd := by simp [IntKind.wrap, IntKind.bits, IntKind.signed]; omega
  clear r1 r2
  go_enter Tryz.func38, Tryz.ntmps38
  go_wp2_with ((with_reducible refine wpList_box_msg rfl (.tmp 2) rfl m rfl ?_); intro w3 HK hl3 hz3; refine Hid.out ?_)
  refine Lib.hid ?_
  rw [hz2'] at HK hz3
  replace HB0 := Lib.hid (HB0.out.below hl3 HB0.out.lt)
  replace HB1 := Lib.hid (HB1.out.below hl3 HB1.out.lt)
  replace hL := hL.trans hl3
  generalize (w.alloc (.cells (cellsB s).toArray 24)).alloc (.cells (cellsB d).toArray 24) = wx at *
  clear hl3 hz2' hz3
  obtain ⟨c0, c1, c2, c3⟩ := BlkM.cells HK
  replace HK := Lib.hid HK
  go_wp2_with fail
  clear c0 c1 c2 c3 d1 d2 d3 d4
  refine wp_region_planS (fun y => Below w3.drew.heap.size w3.drew y) (.rd 0 (.rd 1 (.rd 2 (.rd 3 (.rd 4 (.rd 5 (.rd 7 (.rd 8 (.fork 6 (.act 9 (.act 10 (.rd 11 (.done)))) 9 (.act 6 (.act 10 (.rd 11 (.done))))))))))))) (by kernel_rfl) (by kernel_rfl) (fun _ _ d _ _ h => by cases d <;> exact h) (by kernel_rfl) (Below.refl _ _) ?_
  replace hL := hL.trans (Below.drew (Below.refl w3.heap.size w3))
  replace HB0 : Hid (Blk w3.drew 24 w.heap.size s) := HB0
  replace HB1 : Hid (Blk w3.drew 24 (w.heap.size + 1) d) := HB1
  replace HK : Hid (BlkM w3.drew (w.heap.size + 2) m) := HK
  generalize w3.drew = u at *
  obtain ⟨c0, c1, c2, c3⟩ := BlkM.cells HK.out
  have hlt := HK.out.lt
  iterate 8 (refine walkS_read (v := _) rfl (by rfl) (by
    intro y hy
    have e0 := (hy.cell (p := ⟨w.heap.size + 2, 0, none⟩) hlt).trans c0; have e1 := (hy.cell (p := ⟨w.heap.size + 2, 1, none⟩) hlt).trans c1; have e2 := (hy.cell (p := ⟨w.heap.size + 2, 2, none⟩) hlt).trans c2
    go_simp; try rfl) ?_; simp only [Act.put, List.setIfInBounds_toArray, List.set_cons_zero, List.set_cons_succ])
  have HC3 := Lib.hid c3
  clear c0 c1 c2 c3 k1 k2
  have hLU : Low u u := Low.refl u
  refine ⟨?fa, ?fb⟩
  case' fa =>
    refine walkS_act rfl (by rfl) (fun K hK => ?_)
    go_simp
    have hla := Low.alloc u (.cells #[.int .u8 m.kd, .int .u8 m.cd, .int .u8 0, .int .u8 0] 5)
    refine hK _ _ hla ?_
    clear hK K
    have hka : Blk (u.alloc (.cells #[.int .u8 m.kd, .int .u8 m.cd, .int .u8 0, .int .u8 0] 5)) 5 u.heap.size [m.kd, m.cd, 0, 0] := Blk.new u 5 [m.kd, m.cd, 0, 0]
    have hOA := OwnB.ofBlk (base := u.heap.size) (n := 4) hka HBA.out (Nat.le_refl _) rfl (by simp only [maxLen]; omega)
    replace hLU := Low.trans hLU hla
    obtain ⟨gA, hgA⟩ : ∃ g, g = u.heap.size := ⟨_, rfl⟩
    rw [show (⟨u.heap.size, 0, none⟩ : Addr) = ⟨gA, 0, none⟩ by rw [hgA]] at hOA ⊢
    clear hla hka hgA
    generalize u.alloc (.cells #[.int .u8 m.kd, .int .u8 m.cd, .int .u8 0, .int .u8 0] 5) = w8 at *
    refine walkS_act rfl (by rfl) (fun K hK => ?_)
    go_simp
    refine (rfour_any m.wd w8 HM.out.wd).mono ?_
    rintro e w9 ⟨AB, cB, rfl, hbB, hl⟩
    go_simp
    replace hOA := hOA.below hl
    replace hLU := Low.trans hLU hl
    refine hK _ _ hLU ?_
    clear hK K hl
  case' fb =>
    refine walkS_act rfl (by rfl) (fun K hK => ?_)
    go_simp
    refine (rfour_any m.wd u HM.out.wd).mono ?_
    rintro e w8 ⟨AB, cB, rfl, hbB, hl⟩
    go_simp
    replace hLU := Low.trans hLU hl
    refine hK _ _ hLU ?_
    clear hK K hl
    refine walkS_act rfl (by rfl) (fun K hK => ?_)
    go_simp
    have hla := Low.alloc w8 (.cells #[.int .u8 m.kd, .int .u8 m.cd, .int .u8 0, .int .u8 0] 5)
    have hka : Blk (w8.alloc (.cells #[.int .u8 m.kd, .int .u8 m.cd, .int .u8 0, .int .u8 0] 5)) 5 w8.heap.size [m.kd, m.cd, 0, 0] := Blk.new w8 5 [m.kd, m.cd, 0, 0]
    have hOA := OwnB.ofBlk (base := u.heap.size) (n := 4) hka HBA.out hLU.size rfl (by simp only [maxLen]; omega)
    replace hbB := hbB.below' hla hla.size
    replace hLU := Low.trans hLU hla
    refine hK _ _ hLU ?_
    clear hK K
    obtain ⟨gA, hgA⟩ : ∃ g, g = w8.heap.size := ⟨_, rfl⟩
    rw [← hgA] at hOA ⊢
    clear hla hka hgA
    generalize w8.alloc (.cells #[.int .u8 m.kd, .int .u8 m.cd, .int .u8 0, .int .u8 0] 5) = w9 at *
  all_goals
    refine walkS_act rfl (by rfl) (fun K hK => ?_)
    refine wp_append_bs (.tmp 33) (.tmp 36) _ rfl u.heap.size 5 i0 Tryz.underlying22 hi hz0 hz1 hz2 _ 4 4 _ rfl hOA AB 4 cB _ _ rfl hbB (by omega) hLU.size ?_
    intro A10 r10 w10 hO10 hg10 hx10
    clear hx10
    have hLC : Low u w10 := hLU.grown hg10 hLU.size (fun k hk => (hOA.lt k hk).1)
    refine hK _ _ hLC ?_
    clear hK K hOA hbB hg10 hLU
    replace hO10 : OwnB 5 w10 u.heap.size A10 8 r10 ([m.kd, m.cd, 0, 0] ++ four m.wd) := hO10
    simp only [Act.put, List.setIfInBounds_toArray, List.set_cons_zero, List.set_cons_succ]
    iterate 1 (refine walkS_read (v := _) rfl (by rfl) (by intro y hy; go_simp; try rfl) ?_; simp only [Act.put, List.setIfInBounds_toArray, List.set_cons_zero, List.set_cons_succ])
    unfold walkS
    have cc := (hLC.cell (p := ⟨w.heap.size + 2, 3, none⟩) hlt).trans HC3.out
    have hbm2 := (HM.out.low (hL.trans hLC)).bs
    go_wp2_with (at_builtin; refine wpList_append_bs rfl (.tmp 38) (.tmp 40) _ rfl u.heap.size 5 i0 Tryz.underlying22 hi hz0 hz1 hz2 _ 8 r10 _ rfl hO10 m.bA m.bm m.bc _ _ rfl hbm2 (by omega) hLC.size ?_; intro A11 r11 w11 hO11 hg11 hx11; refine Hid.out ?_)
    refine Lib.hid ?_
    have hLD : Low u w11 := hLC.grown hg11 hLC.size (fun k hk => (hO10.lt k hk).1)
    obtain ⟨n, hn⟩ : ∃ n, n = 8 + m.bm := ⟨_, rfl⟩
    rw [← hn] at hO11 ⊢
    rw [← HX.out] at hO11
    have hnb : n ≤ 140737488351232 := by omega
    have hn4 : 4 ≤ n := by omega
    clear hx11 hg11 hO10 hLC hn cc hbm2 HX
    generalize flatM m.v = xs at *
    replace HB0 := Lib.hid (HB0.out.below hLD HB0.out.lt)
    replace HB1 := Lib.hid (HB1.out.below hLD HB1.out.lt)
    go_wp2_with (first
      | (with_reducible refine wpList_load_addr rfl (.tmp 3) rfl w.heap.size rfl _ s HB0.out HS.out ?_)
      | (with_reducible refine wpList_load_addr rfl (.tmp 4) rfl (w.heap.size + 1) rfl _ d HB1.out HD.out ?_))
    refine (rcheck_any s d 58 A11 n r11 xs w11 HS.out HD.out VS.out VD.out (by unfold i64ok; omega) hnb (hO11.bs (Nat.le_refl _))).mono ?_
    rintro e w12 ⟨rfl, hl⟩
    rw [← HF.out]
    replace hLD := Low.trans hLD hl
    replace hO11 := hO11.below hl
    clear hl HB0 HB1
    generalize sumM s d m.v = z at *
    go_wp2_with fail
    refine (rtwo_any z w12 (by have := HSR.out; unfold i64ok; omega)).mono ?_
    rintro e w13 ⟨v, rfl, g13, rfl, hg13, hk13, hl13, ha13, hl⟩
    have hO13 := hO11.below hl
    obtain ⟨gb, hgb⟩ := hO13.spot (by omega)
    obtain ⟨e, hgb1, hgb2, hgb3, hgb4, hgb5⟩ := hgb
    have hgb2 : gb < w12.heap.size := by
      have := (hO11.lt gb (by rw [e]; rfl)).2
      exact this
    replace hLD := Low.trans hLD hl
    subst e
    clear hl hl13 ha13 hO11
    have hcap := hO13.cap
    clear hO13
    go_wp2_with fail
    have e0 : w13.cell? ⟨g13, 0, none⟩ = some (.int .u8 (z / 256 % 256)) := hk13.cell 0
    have e1 : w13.cell? ⟨g13, 1, none⟩ = some (.int .u8 (z % 256)) := hk13.cell 1
    have n2 : (2 : Int) < n := by omega
    have n3 : (3 : Int) < n := by omega
    have hne : ∀ (i j : Nat), (⟨gb, i, none⟩ : Addr) ≠ ⟨g13, j, none⟩ := fun i j e => by
      injection e with e
      omega
    refine wp_region_planS (fun y => y.cell? ⟨g13, 0, none⟩ = some (.int .u8 (z / 256 % 256)) ∧ y.cell? ⟨g13, 1, none⟩ = some (.int .u8 (z % 256))) (.rd 0 (.rd 1 (.rd 2 (.rd 3 (.rd 4 (.rd 5 (.rd 6 (.rd 7 (.rd 8 (.act 9 (.rd 10 (.act 11 (.done))))))))))))) (by kernel_rfl) (by kernel_rfl) (fun _ _ d _ _ h => by cases d <;> exact h) (by kernel_rfl) ⟨e0, e1⟩ ?_
    replace e0 : w13.drew.cell? ⟨g13, 0, none⟩ = some (.int .u8 (z / 256 % 256)) := e0
    replace e1 : w13.drew.cell? ⟨g13, 1, none⟩ = some (.int .u8 (z % 256)) := e1
    have q2 : w13.drew.cell? ⟨gb, 2, none⟩ = some (.int .u8 (xs.getD 2 0)) := hgb3 2 (by omega)
    have f2 : w13.drew.frozen? ⟨gb, 2, none⟩ = false := hgb4 2
    have hO14 := hgb5 2 (z / 256 % 256) (by omega) (by omega) (by omega)
    replace hO14 : OwnB 5 (w13.drew.setCell ⟨gb, 2, none⟩ (.int .u8 (z / 256 % 256))) u.heap.size (some ⟨gb, 0, none⟩) n r11 (xs.set 2 (z / 256 % 256)) := hO14
    replace hLD : Low u w13.drew := hLD.trans (Below.drew (Below.refl w13.heap.size w13))
    clear hgb3 hgb4 hgb5 hk13
    generalize w13.drew = w14 at *
    iterate 9 (refine walkS_read (v := _) rfl (by rfl) (by
      intro y hy
      obtain ⟨e0, e1⟩ := hy
      go_simp; try rfl) ?_; simp only [Act.put, List.setIfInBounds_toArray, List.set_cons_zero, List.set_cons_succ])
    refine walkS_act rfl (by rfl) (fun K hK => ?_)
    go_simp
    refine hK _ _ ⟨(World.cell?_setCell_other _ _ _ _ (hne _ _)).trans e0, (World.cell?_setCell_other _ _ _ _ (hne _ _)).trans e1⟩ ?_
    replace e0 := (World.cell?_setCell_other w14 _ _ (.int .u8 (z / 256 % 256)) (hne 2 0)).trans e0
    replace e1 := (World.cell?_setCell_other w14 _ _ (.int .u8 (z / 256 % 256)) (hne 2 1)).trans e1
    clear hK K q2 f2
    replace hLD := hLD.setCell (p := ⟨gb, 2, none⟩) hgb1 (.int .u8 (z / 256 % 256))
    generalize w14.setCell ⟨gb, 2, none⟩ (.int .u8 (z / 256 % 256)) = w15 at *
    obtain ⟨gc, hgc, hgc1, hgc2, hgc3, hgc4, hgc5⟩ := hO14.spot (by omega)
    injection hgc with hgc
    injection hgc with hgc _ _
    subst hgc
    have q3 := hgc3 3 (by omega)
    have f3 := hgc4 3
    have hO16 := hgc5 3 (z % 256) (by omega) (by omega) (by omega)
    iterate 1 (refine walkS_read (v := _) rfl (by rfl) (by intro y hy; go_simp; try rfl) ?_; simp only [Act.put, List.setIfInBounds_toArray, List.set_cons_zero, List.set_cons_succ])
    refine walkS_act rfl (by rfl) (fun K hK => ?_)
    go_simp
    refine hK _ _ ⟨(World.cell?_setCell_other _ _ _ _ (hne _ _)).trans e0, (World.cell?_setCell_other _ _ _ _ (hne _ _)).trans e1⟩ ?_
    clear hK K
    replace hLD := hLD.setCell (p := ⟨gb, 3, none⟩) hgb1 (.int .u8 (z % 256))
    clear q3 f3 e0 e1 hgc3 hgc4 hgc5 hO14
    generalize w15.setCell ⟨gb, 3, none⟩ (.int .u8 (z % 256)) = w16 at *
    unfold walkS
    go_wp2_with fail
    go_ret
    exact GivesY.of HO.out (hO16.bs (Nat.le_refl _)) hcap.1 (by have := hcap.2; simp only [maxLen] at this; omega) (hL.trans hLD)

set_option maxRecDepth 100000 in
set_option maxHeartbeats 3200000 in
theorem ricput_no (s d : List Int) (m : Mg) (w : World) (hok : okM m.v = false) :
    Calls Tryz.prog 38 #[addrV s, addrV d, msgV m] w (GivesY w (putM s d m.v)) := by
  unfold addrV msgV
  have hL := low2 w s d 24 24
  have HO := Lib.hid (show putM s d m.v = [] by unfold putM; rw [hok]; rfl)
  have hz2' : ((w.alloc (.cells (cellsB s).toArray 24)).alloc (.cells (cellsB d).toArray 24)).heap.size = w.heap.size + 2 := by simp
  have h4 : m.kd < 0 ∨ (¬ m.kd < 0 ∧ 255 < m.kd) ∨ (¬ m.kd < 0 ∧ ¬ 255 < m.kd ∧ m.cd < 0) ∨ (¬ m.kd < 0 ∧ ¬ 255 < m.kd ∧ ¬ m.cd < 0 ∧ 255 < m.cd) := by
    have hn : ¬ ((0 ≤ m.kd ∧ m.kd ≤ 255) ∧ (0 ≤ m.cd ∧ m.cd ≤ 255)) := fun h => by
      have : okM m.v = true := by unfold okM inB; simp; exact h
      rw [hok] at this
      cases this
    omega
  clear hok
  rcases h4 with h | ⟨h, h2⟩ | ⟨h, h2, h3⟩ | ⟨h, h2, h3, h4⟩
  case' inl => have d1 := decide_eq_true h
  case' inr.inl => have d1 := decide_eq_false h; have d2 := decide_eq_true h2
  case' inr.inr.inl => have d1 := decide_eq_false h; have d2 := decide_eq_false h2; have d3 := decide_eq_true h3
  case' inr.inr.inr => have d1 := decide_eq_false h; have d2 := decide_eq_false h2; have d3 := decide_eq_false h3; have d4 := decide_eq_true h4
  all_goals
    clear h
    try clear h2
    try clear h3
    try clear h4
    go_enter Tryz.func38, Tryz.ntmps38
    go_wp2_with ((with_reducible refine wpList_box_msg rfl (.tmp 2) rfl m rfl ?_); intro w3 HK hl3 hz3; refine Hid.out ?_)
    refine Lib.hid ?_
    rw [hz2'] at HK
    replace hL := hL.trans hl3
    generalize (w.alloc (.cells (cellsB s).toArray 24)).alloc (.cells (cellsB d).toArray 24) = wx at *
    clear hl3 hz3 hz2'
    obtain ⟨c0, c1, c2, c3⟩ := BlkM.cells HK
    clear HK c2 c3
    go_wp2_with fail
    go_ret
    exact GivesY.of HO.out (Bs.nil _ _ _) (Nat.le_refl _) (by simp) hL
theorem ricput_any (s d : List Int) (m : Mg) (w : World) (hs : s.length = 16) (hd : d.length = 16) (vs : AllB s) (vd : AllB d) (hm : m.ok w w.heap.size) (hbm : m.bm ≤ 140737488347136) :
    Calls Tryz.prog 38 #[addrV s, addrV d, msgV m] w (GivesY w (putM s d m.v)) := by
  cases h : okM m.v
  · exact ricput_no s d m w h
  · exact ricput_yes s d m w hs hd vs vd hm hbm h
end Go.Proofs.YtdpbhhoabnmbpaaGreat

namespace Go.Proofs.YtdpbhhoabnmbpaaGreat
open Go.RowKit
set_option linter.unusedVariables false

/-- the message of bytes, and why there is none -/
def getM (xs : List Int) : Mb := ⟨xs.getD 0 0, xs.getD 1 0, num4 xs 4, xs.drop 8⟩
def parseE (s d xs : List Int) : Int := if xs.length < 8 then 3 else if fineB s d 58 xs = true then 0 else 6
def parseM (s d xs : List Int) : Mb := if parseE s d xs = 0 then getM xs else zeroMb
theorem parseM_cases (s d xs : List Int) : (xs.length < 8 ∧ parseE s d xs = 3 ∧ parseM s d xs = zeroMb) ∨ (8 ≤ xs.length ∧ fineB s d 58 xs = false ∧ parseE s d xs = 6 ∧ parseM s d xs = zeroMb) ∨
    (8 ≤ xs.length ∧ fineB s d 58 xs = true ∧ parseE s d xs = 0 ∧ parseM s d xs = getM xs) := by
  by_cases h1 : xs.length < 8
  · have e : parseE s d xs = 3 := by unfold parseE; rw [if_pos h1]
    exact .inl ⟨h1, e, by unfold parseM; rw [e]; rfl⟩
  · cases h2 : fineB s d 58 xs
    · have e : parseE s d xs = 6 := by unfold parseE; rw [if_neg h1, h2]; rfl
      exact .inr (.inl ⟨by omega, rfl, e, by unfold parseM; rw [e]; rfl⟩)
    · have e : parseE s d xs = 0 := by unfold parseE; rw [if_neg h1, h2]; rfl
      exact .inr (.inr ⟨by omega, rfl, e, by unfold parseM; rw [e]; rfl⟩)
theorem icnum4 {xs : List Int} (h : AllB xs) (p : Nat) : 0 ≤ num4 xs p ∧ num4 xs p < 4294967296 := by
  have h1 := h.getD p
  have h2 := h.getD (p + 1)
  have h3 := h.getD (p + 2)
  have h4 := h.getD (p + 3)
  unfold num4
  omega

section
variable (s d : List Int) (A : Option Addr) (n c : Nat) (xs : List Int) (w : World) (hs : s.length = 16) (hd : d.length = 16) (vs : AllB s) (vd : AllB d) (hn : n ≤ 140737488351232) (hc : n ≤ c) (hc2 : c ≤ 9223372036854775807) (hb : Bs w w.heap.size A n xs)
include hs hd vs vd hn hc hc2 hb

set_option maxRecDepth 100000 in
set_option maxHeartbeats 1600000 in
theorem icparse_any : Calls Tryz.prog 163 #[addrV s, addrV d, .slice A n c] w (GivesMF w (parseM s d xs) (.int .i64 (parseE s d xs))) := by
  unfold addrV
  have HBX := Lib.hid hb
  have hl := hb.len
  have HS := Lib.hid hs
  have HD := Lib.hid hd
  have VS := Lib.hid vs
  have VD := Lib.hid vd
  have HB0 := Lib.hid (box_first w s d 24 24)
  have HB1 := Lib.hid (box_second w s d 24 24)
  have hL := low2 w s d 24 24
  have hz2 : ((w.alloc (.cells (cellsB s).toArray 24)).alloc (.cells (cellsB d).toArray 24)).heap.size = w.heap.size + 2 := by simp
  clear hs hd vs vd hb
  have hcs := parseM_cases s d xs
  rw [hl] at hcs
  clear hl
  rcases hcs with ⟨h1, e1, e2⟩ | ⟨h1, h2, e1, e2⟩ | ⟨h1, h2, e1, e2⟩
  · have HE := Lib.hid (And.intro e1 e2)
    have d1 : (n : Int) < 8 := by omega
    clear e1 e2
    go_enter Tryz.func163, Tryz.ntmps163
    go_wp2_with ((with_reducible refine wpList_alloc_msg rfl rfl ?_); intro w3 HZ hl3 hz3; refine Hid.out ?_)
    refine Lib.hid ?_
    replace hL := hL.trans hl3
    rw [hz2] at HZ
    clear hl3 hz2 hz3
    go_wp2_with ((refine wpList_store_msg rfl (.tmp 6) (.tmp 15) rfl (w.heap.size + 2) rfl zeroM rfl zeroM HZ ?_); intro w4 HG hb4 ho4 hz4)
    exact ret_msg Tryz.results163 rfl rfl HG (GivesMF.of (by rw [HE.out.2]; rfl) (by rw [HE.out.1]; rfl) (zeroM_ok _ _) (Below.trans hL (hb4.mono (by omega))) (zeroM_from _)) rfl
  · have HE := Lib.hid (And.intro e1 e2)
    have d1 : ¬ (n : Int) < 8 := by omega
    clear e1 e2
    go_enter Tryz.func163, Tryz.ntmps163
    go_wp2_with ((with_reducible refine wpList_alloc_msg rfl rfl ?_); intro w3 HZ hl3 hz3; refine Hid.out ?_)
    refine Lib.hid ?_
    replace hL := hL.trans hl3
    rw [hz2] at HZ
    replace HZ := Lib.hid HZ
    replace HB0 := Lib.hid (HB0.out.below hl3 HB0.out.lt)
    replace HB1 := Lib.hid (HB1.out.below hl3 HB1.out.lt)
    clear hl3 hz2 hz3
    go_wp2_with (first
      | (with_reducible refine wpList_load_addr rfl (.tmp 3) rfl w.heap.size rfl _ s HB0.out HS.out ?_)
      | (with_reducible refine wpList_load_addr rfl (.tmp 4) rfl (w.heap.size + 1) rfl _ d HB1.out HD.out ?_))
    refine (fine_any s d 58 A n c xs w3 HS.out HD.out VS.out VD.out (by unfold i64ok; omega) (by omega) (HBX.out.below' hL hL.size)).mono ?_
    rintro e w4 ⟨rfl, hl4⟩
    rw [h2]
    replace HZ := Lib.hid (HZ.out.below hl4 HZ.out.lt)
    replace hL := Low.trans hL hl4
    clear hl4 HB0 HB1
    go_wp2_with ((refine wpList_store_msg rfl (.tmp 6) (.tmp 21) rfl (w.heap.size + 2) rfl zeroM rfl zeroM HZ.out ?_); intro w5 HG hb5 ho5 hz5)
    exact ret_msg Tryz.results163 rfl rfl HG (GivesMF.of (by rw [HE.out.2]; rfl) (by rw [HE.out.1]; rfl) (zeroM_ok _ _) (Below.trans hL (hb5.mono (by omega))) (zeroM_from _)) rfl
  · have HE := Lib.hid (And.intro e1 e2)
    have d1 : ¬ (n : Int) < 8 := by omega
    clear e1 e2
    go_enter Tryz.func163, Tryz.ntmps163
    go_wp2_with ((with_reducible refine wpList_alloc_msg rfl rfl ?_); intro w3 HZ hl3 hz3; refine Hid.out ?_)
    refine Lib.hid ?_
    replace hL := hL.trans hl3
    rw [hz2] at HZ
    replace HZ := Lib.hid HZ
    replace HB0 := Lib.hid (HB0.out.below hl3 HB0.out.lt)
    replace HB1 := Lib.hid (HB1.out.below hl3 HB1.out.lt)
    clear hl3 hz2 hz3
    go_wp2_with (first
      | (with_reducible refine wpList_load_addr rfl (.tmp 3) rfl w.heap.size rfl _ s HB0.out HS.out ?_)
      | (with_reducible refine wpList_load_addr rfl (.tmp 4) rfl (w.heap.size + 1) rfl _ d HB1.out HD.out ?_))
    refine (fine_any s d 58 A n c xs w3 HS.out HD.out VS.out VD.out (by unfold i64ok; omega) (by omega) (HBX.out.below' hL hL.size)).mono ?_
    rintro e w4 ⟨rfl, hl4⟩
    rw [h2]
    replace HZ := Lib.hid (HZ.out.below hl4 HZ.out.lt)
    replace hL := Low.trans hL hl4
    clear hl4 HB0 HB1
    have hb4 := HBX.out.below' hL hL.size
    go_wp2_with fail
    refine (u32_yes A n c 4 4 xs w4 (by omega) hb4 rfl (by omega)).mono ?_
    rintro e w5 ⟨rfl, k5, rfl⟩
    replace HZ : Hid (BlkM (w4.drewN k5) (w.heap.size + 2) zeroM) := HZ
    replace hL := below_drewN hL k5
    replace hb4 : Bs (w4.drewN k5) (w4.drewN k5).heap.size A n xs := hb4.drewN k5
    generalize w4.drewN k5 = w5 at *
    go_wp2_with fail
    refine (cut_yes A n c 8 ((n : Int) - 8) 8 (n - 8) xs w5 (by omega) hc hc2 hb4 rfl (by omega) (by omega)).mono ?_
    rintro e w6 ⟨v, rfl, g, rfl, hg, hk, hl6, ha6, hl⟩
    rw [List.take_of_length_le (by rw [List.length_drop, HBX.out.len]; omega)] at hk hl6 ha6
    have hgz : w.heap.size + 2 < g := Nat.lt_of_lt_of_le HZ.out.lt hg
    replace HZ := Lib.hid (HZ.out.below hl HZ.out.lt)
    replace hL := Low.trans hL hl
    have HBY := Lib.hid (And.intro hk (And.intro hl6 ha6))
    clear hk hl6 ha6 hl hb4 hg
    obtain ⟨b, o, rfl, hbl, hcell⟩ := HBX.out.mem (by omega)
    have c0 := hcell 0 (by omega)
    have c1 := hcell 1 (by omega)
    rw [Nat.add_zero] at c0
    have r0 := HBX.out.nonneg 0
    have r1 := HBX.out.nonneg 1
    have k0 : IntKind.i64.wrap (xs.getD 0 0) = xs.getD 0 0 := wraps_i64 _ r0.1 (by omega)
    have k1 : IntKind.i64.wrap (xs.getD 1 0) = xs.getD 1 0 := wraps_i64 _ r1.1 (by omega)
    have n0 : (0 : Int) < n := by omega
    have n0' : 0 < n := by omega
    have n1 : (1 : Int) < n := by omega
    have HG := Lib.hid (show getM xs = ⟨xs.getD 0 0, xs.getD 1 0, num4 xs 4, xs.drop 8⟩ from rfl)
    have H4 := Lib.hid (icnum4 HBX.out.all 4)
    have hmm : n - 8 ≤ 140737488351232 := by omega
    clear hcell
    generalize xs.getD 0 0 = x0 at *
    generalize xs.getD 1 0 = x1 at *
    generalize num4 xs 4 = x4 at *
    generalize xs.drop 8 = ys at *
    go_wp2_with fail
    refine wp_region_planS (fun y => Below w.heap.size w y) (.rd 0 (.rd 1 (.rd 2 (.rd 3 (.rd 4 (.rd 5 (.rd 6 (.rd 7 (.rd 8 (.rd 9 (.rd 10 (.act 11 (.rd 12 (.done)))))))))))))) (by kernel_rfl) (by kernel_rfl) (fun _ _ d _ _ h => by cases d <;> exact h) (by kernel_rfl) (Below.drew hL) ?_
    replace HZ : Hid (BlkM w6.drew (w.heap.size + 2) zeroM) := HZ
    replace HBY : Hid (Blk w6.drew 5 g ys ∧ ys.length = n - 8 ∧ AllB ys) := HBY
    replace hL := Below.drew hL
    generalize w6.drew = w7 at *
    iterate 11 (refine walkS_read (v := _) rfl (by rfl) (by
      intro y hy
      have e0 := (hy.cell (p := ⟨b, o, none⟩) hbl).trans c0; have e1 := (hy.cell (p := ⟨b, o + 1, none⟩) hbl).trans c1
      go_simp; try rfl) ?_; simp only [Act.put, List.setIfInBounds_toArray, List.set_cons_zero, List.set_cons_succ])
    refine walkS_act rfl (by rfl) (fun K hK => ?_)
    refine wp_store_row 36 (.tmp 6) (.tmp 45) rfl (w.heap.size + 2) (msgC ⟨x0, x1, x4, some ⟨g, 0, none⟩, n - 8, n - 8, ys⟩).toArray rfl rfl 36 _ HZ.out (by rw [msg_size]; rfl) rfl (msgC_one _) ?_
    have hBE := hL.trans (low_setRow w7 (w.heap.size + 2) (msgC ⟨x0, x1, x4, some ⟨g, 0, none⟩, n - 8, n - 8, ys⟩).toArray (Nat.le_add_right _ _))
    refine hK _ _ hBE ?_
    clear hK K
    have HE2 := BlkV.setRow HZ.out (msgC ⟨x0, x1, x4, some ⟨g, 0, none⟩, n - 8, n - 8, ys⟩)
    have hok : Mg.ok (w7.setRow (w.heap.size + 2) (msgC ⟨x0, x1, x4, some ⟨g, 0, none⟩, n - 8, n - 8, ys⟩).toArray) (w7.setRow (w.heap.size + 2) (msgC ⟨x0, x1, x4, some ⟨g, 0, none⟩, n - 8, n - 8, ys⟩).toArray).heap.size ⟨x0, x1, x4, some ⟨g, 0, none⟩, n - 8, n - 8, ys⟩ :=
      ⟨by unfold i64ok; dsimp only; omega, by unfold i64ok; dsimp only; omega, H4.out, hmm, HBY.out.1.other HBY.out.2.2 (g' := w.heap.size + 2) (by omega) (fun p hp => World.cell?_of_block (by simp [World.setRow, Array.getElem?_modify, Ne.symm hp])) (by simpa using HBY.out.1.lt) HBY.out.2.1⟩
    clear HZ HBY
    generalize w7.setRow (w.heap.size + 2) (msgC ⟨x0, x1, x4, some ⟨g, 0, none⟩, n - 8, n - 8, ys⟩).toArray = wE at *
    simp only [Act.put]
    iterate 1 (refine walkS_read (v := _) rfl (by rfl) (by intro y hy; go_simp; try rfl) ?_; simp only [Act.put, List.setIfInBounds_toArray, List.set_cons_zero, List.set_cons_succ])
    unfold walkS
    go_wp2
    exact ret_msg Tryz.results163 rfl rfl HE2 (GivesMF.of (by rw [HE.out.2, HG.out]; rfl) (by rw [HE.out.1]; rfl) hok hBE (MFrom.at_ (by omega))) rfl
end
end Go.Proofs.YtdpbhhoabnmbpaaGreat

namespace Go.Proofs.YtdpbhhoabnmbpaaGreat
open Go.RowKit
set_option linter.unusedVariables false

section
variable (s d : List Int) (A : Option Addr) (n c : Nat) (xs : List Int) (w : World) (hs : s.length = 16) (hd : d.length = 16) (vs : AllB s) (vd : AllB d) (hn : n ≤ 140737488351232) (hc : n ≤ c) (hb : Bs w w.heap.size A n xs)
include hs hd vs vd hn hc hb

end
end Go.Proofs.YtdpbhhoabnmbpaaGreat

namespace Go.Proofs.YtdpbhhoabnmbpaaGreat
open Go.RowKit
set_option linter.unusedVariables false

set_option maxRecDepth 100000 in
set_option maxHeartbeats 1600000 in
theorem icsame_eq (a b : Mg) (w : World) (ha : a.ok w w.heap.size) (hb : b.ok w w.heap.size) (h : a.v = b.v) :
    Calls Tryz.prog 19 #[msgV a, msgV b] w fun e w' => e = .returned (.bool true) ∧ Below w.heap.size w w' := by
  unfold msgV
  obtain ⟨kd, cd, wd, bA, bm, bc, bs⟩ := a
  obtain ⟨kd', cd', wd', bA', bm', bc', bs'⟩ := b
  unfold Mg.v at h
  simp only [Mb.mk.injEq] at h
  obtain ⟨rfl, rfl, rfl, rfl⟩ := h
  have HA := Lib.hid ha
  have HB := Lib.hid hb
  clear ha hb
  go_enter Tryz.func19, Tryz.ntmps19
  go_wp2_with (first
    | ((with_reducible refine wpList_box_msg rfl (.tmp 0) rfl ⟨kd, cd, wd, bA, bm, bc, bs⟩ rfl ?_); intro w1 HK1 hl1 hz1)
    | ((with_reducible refine wpList_box_msg rfl (.tmp 1) rfl ⟨kd, cd, wd, bA', bm', bc', bs⟩ rfl ?_); intro w2 HK2 hl2 hz2; refine Hid.out ?_))
  refine Lib.hid ?_
  rw [hz1] at HK2
  replace HK1 := HK1.below hl2 HK1.lt
  have hL : Low w w2 := hl1.trans hl2
  clear hl1 hl2 hz1 hz2
  obtain ⟨a0, a1, a2, a3⟩ := BlkM.cells HK1
  obtain ⟨b0, b1, b2, b3⟩ := BlkM.cells HK2
  dsimp only at a0 a1 a2 a3 b0 b1 b2 b3
  have cv1 := conv_bs (c := bc) (HA.out.low hL).bs
  have cv2 := conv_bs (c := bc') (HB.out.low hL).bs
  dsimp only at cv1 cv2
  clear HK1 HK2
  generalize strOfNums bs = sx at *
  go_wp2_with fail
  go_ret
  exact ⟨rfl, hL⟩

end Go.Proofs.YtdpbhhoabnmbpaaGreat

namespace Go.Proofs.YtdpbhhoabnmbpaaGreat
open Go.RowKit
set_option linter.unusedVariables false

section
variable (A : Option Addr) (n c : Nat) (xs : List Int) (w : World) (hn : n ≤ 140737488351232) (hc : n ≤ c) (hc2 : c ≤ 9223372036854775807) (hb : Bs w w.heap.size A n xs)
include hn hc hc2 hb

end
end Go.Proofs.YtdpbhhoabnmbpaaGreat

namespace Go.Proofs.YtdpbhhoabnmbpaaGreat
open Go.RowKit
set_option linter.unusedVariables false

section
variable (A : Option Addr) (n c : Nat) (xs : List Int) (w : World) (hn : n ≤ 140737488351232) (hc : n ≤ c) (hb : Bs w w.heap.size A n xs)
include hn hb

set_option maxRecDepth 100000 in
set_option maxHeartbeats 3200000 in
include hc in
include hc in
end
end Go.Proofs.YtdpbhhoabnmbpaaGreat

namespace Go.Proofs.YtdpbhhoabnmbpaaGreat
open Go.RowKit
set_option linter.unusedVariables false

/-- what was put is parsed as what it was -/
theorem putM_len {s d : List Int} {x : Mb} (h : okM x = true) : (putM s d x).length = x.bs.length + 8 := by
  unfold putM
  rw [if_pos h, List.length_set, List.length_set, flatM_len]
end Go.Proofs.YtdpbhhoabnmbpaaGreat
