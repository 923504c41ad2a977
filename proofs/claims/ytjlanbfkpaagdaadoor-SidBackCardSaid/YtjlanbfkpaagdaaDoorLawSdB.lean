/- The walk of harrierlaw12.SidBack: it answers true. Conditions: the address is 16 bytes; the library's table of powers of ten holds what its text lays. -/
import Derived.Test.YtjlanbfkpaagdaaDoorSdJ
namespace Go.Proofs.YtjlanbfkpaagdaaDoor
open Go.RowKit
set_option linter.unusedVariables false

/-- what was made is split into what it was -/
theorem laid_back (n d a : Int) (h : canD n d = true) (ha : 0 ≤ a ∧ a < 4294967296) : sdOf (laidD n d a) = ⟨n, d, a⟩ ∧ isD (laidD n d a) = true := by
  have hc : 0 ≤ n ∧ n ≤ 65535 ∧ 0 ≤ d ∧ d ≤ 255 := of_decide_eq_true h
  have e1 : num2 (laidD n d a) 8 = n := by
    show n / 256 % 256 * 256 + n % 256 = n
    omega
  have e2 : (laidD n d a).getD 10 0 = d := rfl
  have e3 : num4 (laidD n d a) 12 = a := by
    show a / 16777216 * 16777216 + a / 65536 % 256 * 65536 + a / 256 % 256 * 256 + a % 256 = a
    omega
  refine ⟨by unfold sdOf; rw [e1, e2, e3], ?_⟩
  unfold isD backD
  rw [e1, e2, e3]
  simp
/-- what is split is made again -/
theorem split_back (s : List Int) (vs : AllB s) (h : isD s = true) : makeD (splitD s).n (splitD s).d (splitD s).a = s ∧ errD (splitD s).n (splitD s).d = 0 := by
  have e : splitD s = sdOf s := by unfold splitD; rw [h]; rfl
  have hc : canD (sdOf s).n (sdOf s).d = true := sdOf_can s vs
  rw [e]
  unfold makeD errD
  rw [hc]
  refine ⟨?_, rfl⟩
  have : backD s = s := eq_of_beq h
  exact this

set_option maxRecDepth 100000 in
set_option maxHeartbeats 12800000 in
theorem sdb_nn (n d a : Int) (s : List Int) (w : World) (ha : 0 ≤ a ∧ a < 4294967296) (hs : s.length = 16) (vs : AllB s) (hp : Pow10 w) (h1 : canD n d = false) (h2 : isD s = false) :
    Calls Tryd.prog 5 #[sidV n d a, addrV s] w fun e w' => e = .returned (.bool true) ∧ Below w.heap.size w w' := by
  have HP := Lib.hid hp
  have HS := Lib.hid hs
  have HM := Lib.hid (fun w => make_no n d a w h1)
  have HXL := Lib.hid (show zero16.length = 16 from rfl)
  generalize zero16 = x at HM HXL
  have HR := Lib.hid (fun w => split_any s w hs vs)
  rw [h2] at HR
  unfold addrV at HR
  generalize splitD s = z at *
  unfold sidV at HM
  unfold sidV addrV
  clear hp hs vs h1 h2 ha
  go_enter Tryd.func5, Tryd.ntmps5
  go_wp2_with (first | ((with_reducible refine wpList_box_v rfl 24 (.tmp 0) rfl [.int .i64 n, .int .i64 d, .int .u32 a] rfl ?_); intro w1 HB0 hL hz1) | ((with_reducible refine wpList_box_ad rfl (.tmp 1) rfl rfl ?_); intro w2 HA hl hz2; refine Hid.out ?_))
  refine Lib.hid ?_
  have HB : Hid (BlkD w2 w.heap.size ⟨n, d, a⟩) := Lib.hid (BlkV.below HB0 hl HB0.lt)
  rw [hz1] at HA
  replace HA := Lib.hid HA
  replace hL := hL.trans hl
  clear HB0 hz1 hz2 hl
  go_wp2_with (with_reducible refine wpList_load_sd rfl (.tmp 2) rfl w.heap.size rfl ⟨n, d, a⟩ HB.out ?_)
  refine (HM.out w2).mono ?_
  rintro e w3 ⟨rfl, hl0⟩
  have hl : Low w2 w3 := hl0
  replace HB := Lib.hid (HB.out.below hl HB.out.lt)
  replace HA := Lib.hid (HA.out.below hl HA.out.lt)
  replace hL := hL.trans hl
  clear hl hl0 HM
  unfold addrV
  go_wp2_with ((with_reducible refine wpList_alloc_v rfl 26 rfl (cellsB zero16) addr_zeroD ?_); intro w4 HY hl hz5; refine Hid.out ?_)
  refine Lib.hid ?_
  replace HY : Hid (Blk w4 26 w3.heap.size zero16) := Lib.hid HY
  have hlb := HB.out.lt
  have hla := HA.out.lt
  replace HB := Lib.hid (HB.out.below hl HB.out.lt)
  replace HA := Lib.hid (HA.out.below hl HA.out.lt)
  go_wp2_with ((refine wpList_store_addr rfl (.tmp 5) (.tmp 16) rfl w3.heap.size rfl x rfl _ zero16 HY.out rfl HXL.out ?_); intro w5 HG hb6 hz6; refine Hid.out ?_)
  refine Lib.hid ?_
  replace HG := Lib.hid HG
  replace HB := Lib.hid (HB.out.below hb6 hlb)
  replace HA := Lib.hid (HA.out.below hb6 hla)
  replace hl : Low w3 w5 := Below.trans hl hb6
  replace hL := hL.trans hl
  obtain ⟨G, hG⟩ : ∃ g, g = w3.heap.size := ⟨_, rfl⟩
  rw [← hG] at HG ⊢
  clear HY hz5 hz6 hb6 hl hG hlb hla
  go_wp2_with (with_reducible refine wpList_load_addr rfl (.tmp 3) rfl (w.heap.size + 1) rfl 26 s HA.out HS.out ?_)
  refine (HR.out w5).mono ?_
  rintro e w9 ⟨rfl, hl0⟩
  have hl : Low w5 w9 := hl0
  replace HA := Lib.hid (HA.out.below hl HA.out.lt)
  replace hL := hL.trans hl
  clear hl hl0 HR HB
  go_wp2_with ((with_reducible refine wpList_alloc_sd rfl rfl ?_); intro w10 HY hl hz5; refine Hid.out ?_)
  refine Lib.hid ?_
  replace HY := Lib.hid HY
  have hla := HA.out.lt
  replace HA := Lib.hid (HA.out.below hl HA.out.lt)
  go_wp2_with ((with_reducible refine wpList_store_sd rfl (.tmp 9) (.tmp 35) rfl w9.heap.size rfl z rfl _ HY.out ?_); intro w11 HK hb6 hz6; refine Hid.out ?_)
  refine Lib.hid ?_
  replace HK := Lib.hid HK
  replace HA := Lib.hid (HA.out.below hb6 hla)
  replace hl : Low w9 w11 := Below.trans hl hb6
  replace hL := hL.trans hl
  obtain ⟨K, hK⟩ : ∃ g, g = w9.heap.size := ⟨_, rfl⟩
  rw [← hK] at HK ⊢
  clear HY hz5 hz6 hb6 hl hK hla
  go_wp2_with fail
  refine (sdlives_any w11 (HP.out.low hL)).mono ?_
  rintro e w20 ⟨rfl, hl⟩
  replace hL := hL.trans hl
  clear hl
  go_wp2_with fail
  go_ret
  exact ⟨rfl, hL⟩

set_option maxRecDepth 100000 in
set_option maxHeartbeats 12800000 in
theorem sdb_ny (n d a : Int) (s : List Int) (w : World) (ha : 0 ≤ a ∧ a < 4294967296) (hs : s.length = 16) (vs : AllB s) (hp : Pow10 w) (h1 : canD n d = false) (h2 : isD s = true) :
    Calls Tryd.prog 5 #[sidV n d a, addrV s] w fun e w' => e = .returned (.bool true) ∧ Below w.heap.size w w' := by
  have HP := Lib.hid hp
  have HS := Lib.hid hs
  have HM := Lib.hid (fun w => make_no n d a w h1)
  have HXL := Lib.hid (show zero16.length = 16 from rfl)
  generalize zero16 = x at HM HXL
  have HR := Lib.hid (fun w => split_any s w hs vs)
  rw [h2] at HR
  have hsb := split_back s vs h2
  have HD := Lib.hid (fun w => sidmake_any (splitD s).n (splitD s).d (splitD s).a w (by
    have e : splitD s = sdOf s := by unfold splitD; rw [h2]; rfl
    rw [e]; exact sdOf_arg s vs))
  rw [hsb.1, hsb.2] at HD
  unfold addrV sidV at HD
  unfold addrV at HR
  generalize splitD s = z at *
  clear hsb
  unfold sidV at HM
  unfold sidV addrV
  clear hp hs vs h1 h2 ha
  go_enter Tryd.func5, Tryd.ntmps5
  go_wp2_with (first | ((with_reducible refine wpList_box_v rfl 24 (.tmp 0) rfl [.int .i64 n, .int .i64 d, .int .u32 a] rfl ?_); intro w1 HB0 hL hz1) | ((with_reducible refine wpList_box_ad rfl (.tmp 1) rfl rfl ?_); intro w2 HA hl hz2; refine Hid.out ?_))
  refine Lib.hid ?_
  have HB : Hid (BlkD w2 w.heap.size ⟨n, d, a⟩) := Lib.hid (BlkV.below HB0 hl HB0.lt)
  rw [hz1] at HA
  replace HA := Lib.hid HA
  replace hL := hL.trans hl
  clear HB0 hz1 hz2 hl
  go_wp2_with (with_reducible refine wpList_load_sd rfl (.tmp 2) rfl w.heap.size rfl ⟨n, d, a⟩ HB.out ?_)
  refine (HM.out w2).mono ?_
  rintro e w3 ⟨rfl, hl0⟩
  have hl : Low w2 w3 := hl0
  replace HB := Lib.hid (HB.out.below hl HB.out.lt)
  replace HA := Lib.hid (HA.out.below hl HA.out.lt)
  replace hL := hL.trans hl
  clear hl hl0 HM
  unfold addrV
  go_wp2_with ((with_reducible refine wpList_alloc_v rfl 26 rfl (cellsB zero16) addr_zeroD ?_); intro w4 HY hl hz5; refine Hid.out ?_)
  refine Lib.hid ?_
  replace HY : Hid (Blk w4 26 w3.heap.size zero16) := Lib.hid HY
  have hlb := HB.out.lt
  have hla := HA.out.lt
  replace HB := Lib.hid (HB.out.below hl HB.out.lt)
  replace HA := Lib.hid (HA.out.below hl HA.out.lt)
  go_wp2_with ((refine wpList_store_addr rfl (.tmp 5) (.tmp 16) rfl w3.heap.size rfl x rfl _ zero16 HY.out rfl HXL.out ?_); intro w5 HG hb6 hz6; refine Hid.out ?_)
  refine Lib.hid ?_
  replace HG := Lib.hid HG
  replace HB := Lib.hid (HB.out.below hb6 hlb)
  replace HA := Lib.hid (HA.out.below hb6 hla)
  replace hl : Low w3 w5 := Below.trans hl hb6
  replace hL := hL.trans hl
  obtain ⟨G, hG⟩ : ∃ g, g = w3.heap.size := ⟨_, rfl⟩
  rw [← hG] at HG ⊢
  clear HY hz5 hz6 hb6 hl hG hlb hla
  go_wp2_with (with_reducible refine wpList_load_addr rfl (.tmp 3) rfl (w.heap.size + 1) rfl 26 s HA.out HS.out ?_)
  refine (HR.out w5).mono ?_
  rintro e w9 ⟨rfl, hl0⟩
  have hl : Low w5 w9 := hl0
  replace HA := Lib.hid (HA.out.below hl HA.out.lt)
  replace hL := hL.trans hl
  clear hl hl0 HR HB
  go_wp2_with ((with_reducible refine wpList_alloc_sd rfl rfl ?_); intro w10 HY hl hz5; refine Hid.out ?_)
  refine Lib.hid ?_
  replace HY := Lib.hid HY
  have hla := HA.out.lt
  replace HA := Lib.hid (HA.out.below hl HA.out.lt)
  go_wp2_with ((with_reducible refine wpList_store_sd rfl (.tmp 9) (.tmp 35) rfl w9.heap.size rfl z rfl _ HY.out ?_); intro w11 HK hb6 hz6; refine Hid.out ?_)
  refine Lib.hid ?_
  replace HK := Lib.hid HK
  replace HA := Lib.hid (HA.out.below hb6 hla)
  replace hl : Low w9 w11 := Below.trans hl hb6
  replace hL := hL.trans hl
  obtain ⟨K, hK⟩ : ∃ g, g = w9.heap.size := ⟨_, rfl⟩
  rw [← hK] at HK ⊢
  clear HY hz5 hz6 hb6 hl hK hla
  go_wp2_with (with_reducible refine wpList_load_sd rfl (.tmp 9) rfl K rfl z HK.out ?_)
  refine (HD.out w11).mono ?_
  rintro e w12 ⟨rfl, hl0⟩
  have hl : Low w11 w12 := hl0
  replace HA := Lib.hid (HA.out.below hl HA.out.lt)
  replace hL := hL.trans hl
  clear hl hl0 HK HD
  go_wp2_with ((with_reducible refine wpList_alloc_v rfl 26 rfl (cellsB zero16) addr_zeroD ?_); intro w13 HY hl hz5; refine Hid.out ?_)
  refine Lib.hid ?_
  replace HY : Hid (Blk w13 26 w12.heap.size zero16) := Lib.hid HY
  have hla := HA.out.lt
  replace HA := Lib.hid (HA.out.below hl HA.out.lt)
  go_wp2_with ((refine wpList_store_addr rfl (.tmp 11) (.tmp 41) rfl w12.heap.size rfl s rfl _ zero16 HY.out rfl HS.out ?_); intro w14 HF hb6 hz6; refine Hid.out ?_)
  refine Lib.hid ?_
  replace HF := Lib.hid HF
  replace HA := Lib.hid (HA.out.below hb6 hla)
  replace hl : Low w12 w14 := Below.trans hl hb6
  replace hL := hL.trans hl
  clear HY hz5 hz6 hb6 hl hla
  have heq := fun u => eq_addr s s HS.out HS.out u
  rw [show (s == s) = true by simp] at heq
  go_wp2_with (first | (with_reducible refine wpList_load_addr_g rfl (.tmp 11) rfl w12.heap.size rfl 26 s HF.out HS.out ?_) | (with_reducible refine wpList_load_addr_g rfl (.tmp 3) rfl (w.heap.size + 1) rfl 26 s HA.out HS.out ?_))
  refine (sdlives_any w14 (HP.out.low hL)).mono ?_
  rintro e w20 ⟨rfl, hl⟩
  replace hL := hL.trans hl
  clear hl
  go_wp2_with fail
  go_ret
  exact ⟨rfl, hL⟩

set_option maxRecDepth 100000 in
set_option maxHeartbeats 12800000 in
theorem sdb_yn (n d a : Int) (s : List Int) (w : World) (ha : 0 ≤ a ∧ a < 4294967296) (hs : s.length = 16) (vs : AllB s) (hp : Pow10 w) (h1 : canD n d = true) (h2 : isD s = false) :
    Calls Tryd.prog 5 #[sidV n d a, addrV s] w fun e w' => e = .returned (.bool true) ∧ Below w.heap.size w w' := by
  have HP := Lib.hid hp
  have HS := Lib.hid hs
  have hlb := laid_back n d a h1 ha
  have HM := Lib.hid (fun w => make_yes n d a w h1 ha)
  have HC := Lib.hid (fun w => split_any (laidD n d a) w rfl (laidD_all n d a (by have := of_decide_eq_true h1; omega) ha))
  rw [show splitD (laidD n d a) = ⟨n, d, a⟩ by unfold splitD; rw [hlb.2]; exact hlb.1, hlb.2] at HC
  have HXL := Lib.hid (laidD_len n d a)
  unfold addrV at HC
  generalize laidD n d a = x at *
  clear hlb
  have HR := Lib.hid (fun w => split_any s w hs vs)
  rw [h2] at HR
  unfold addrV at HR
  generalize splitD s = z at *
  unfold sidV at HM
  unfold sidV addrV
  clear hp hs vs h1 h2 ha
  go_enter Tryd.func5, Tryd.ntmps5
  go_wp2_with (first | ((with_reducible refine wpList_box_v rfl 24 (.tmp 0) rfl [.int .i64 n, .int .i64 d, .int .u32 a] rfl ?_); intro w1 HB0 hL hz1) | ((with_reducible refine wpList_box_ad rfl (.tmp 1) rfl rfl ?_); intro w2 HA hl hz2; refine Hid.out ?_))
  refine Lib.hid ?_
  have HB : Hid (BlkD w2 w.heap.size ⟨n, d, a⟩) := Lib.hid (BlkV.below HB0 hl HB0.lt)
  rw [hz1] at HA
  replace HA := Lib.hid HA
  replace hL := hL.trans hl
  clear HB0 hz1 hz2 hl
  go_wp2_with (with_reducible refine wpList_load_sd rfl (.tmp 2) rfl w.heap.size rfl ⟨n, d, a⟩ HB.out ?_)
  refine (HM.out w2).mono ?_
  rintro e w3 ⟨rfl, hl0⟩
  have hl : Low w2 w3 := hl0
  replace HB := Lib.hid (HB.out.below hl HB.out.lt)
  replace HA := Lib.hid (HA.out.below hl HA.out.lt)
  replace hL := hL.trans hl
  clear hl hl0 HM
  unfold addrV
  go_wp2_with ((with_reducible refine wpList_alloc_v rfl 26 rfl (cellsB zero16) addr_zeroD ?_); intro w4 HY hl hz5; refine Hid.out ?_)
  refine Lib.hid ?_
  replace HY : Hid (Blk w4 26 w3.heap.size zero16) := Lib.hid HY
  have hlb := HB.out.lt
  have hla := HA.out.lt
  replace HB := Lib.hid (HB.out.below hl HB.out.lt)
  replace HA := Lib.hid (HA.out.below hl HA.out.lt)
  go_wp2_with ((refine wpList_store_addr rfl (.tmp 5) (.tmp 16) rfl w3.heap.size rfl x rfl _ zero16 HY.out rfl HXL.out ?_); intro w5 HG hb6 hz6; refine Hid.out ?_)
  refine Lib.hid ?_
  replace HG := Lib.hid HG
  replace HB := Lib.hid (HB.out.below hb6 hlb)
  replace HA := Lib.hid (HA.out.below hb6 hla)
  replace hl : Low w3 w5 := Below.trans hl hb6
  replace hL := hL.trans hl
  obtain ⟨G, hG⟩ : ∃ g, g = w3.heap.size := ⟨_, rfl⟩
  rw [← hG] at HG ⊢
  clear HY hz5 hz6 hb6 hl hG hlb hla
  go_wp2_with (with_reducible refine wpList_load_addr rfl (.tmp 5) rfl G rfl 26 x HG.out HXL.out ?_)
  refine (HC.out w5).mono ?_
  rintro e w6 ⟨rfl, hl0⟩
  have hl : Low w5 w6 := hl0
  replace HB := Lib.hid (HB.out.below hl HB.out.lt)
  replace HA := Lib.hid (HA.out.below hl HA.out.lt)
  replace hL := hL.trans hl
  clear hl hl0 HC HG
  go_wp2_with ((with_reducible refine wpList_alloc_sd rfl rfl ?_); intro w7 HY hl hz5; refine Hid.out ?_)
  refine Lib.hid ?_
  replace HY := Lib.hid HY
  have hlb := HB.out.lt
  have hla := HA.out.lt
  replace HB := Lib.hid (HB.out.below hl HB.out.lt)
  replace HA := Lib.hid (HA.out.below hl HA.out.lt)
  go_wp2_with ((with_reducible refine wpList_store_sd rfl (.tmp 7) (.tmp 23) rfl w6.heap.size rfl ⟨n, d, a⟩ rfl _ HY.out ?_); intro w8 HF hb6 hz6; refine Hid.out ?_)
  refine Lib.hid ?_
  replace HF := Lib.hid HF
  replace HB := Lib.hid (HB.out.below hb6 hlb)
  replace HA := Lib.hid (HA.out.below hb6 hla)
  replace hl : Low w6 w8 := Below.trans hl hb6
  replace hL := hL.trans hl
  obtain ⟨F, hF⟩ : ∃ g, g = w6.heap.size := ⟨_, rfl⟩
  rw [← hF] at HF ⊢
  clear HY hz5 hz6 hb6 hl hF hlb hla
  have c0 : w8.cell? ⟨F, 0, none⟩ = some (.int .i64 n) := BlkV.cell HF.out 0
  have c1 : w8.cell? ⟨F, 1, none⟩ = some (.int .i64 d) := BlkV.cell HF.out 1
  have c2 : w8.cell? ⟨F, 2, none⟩ = some (.int .u32 a) := BlkV.cell HF.out 2
  have b0 : w8.cell? ⟨w.heap.size, 0, none⟩ = some (.int .i64 n) := BlkV.cell HB.out 0
  have b1 : w8.cell? ⟨w.heap.size, 1, none⟩ = some (.int .i64 d) := BlkV.cell HB.out 1
  have b2 : w8.cell? ⟨w.heap.size, 2, none⟩ = some (.int .u32 a) := BlkV.cell HB.out 2
  have heq := fun u => eq_sd ⟨n, d, a⟩ ⟨n, d, a⟩ u
  rw [eqD_refl] at heq
  go_wp2_with (with_reducible refine wpList_load_addr rfl (.tmp 3) rfl (w.heap.size + 1) rfl 26 s HA.out HS.out ?_)
  refine (HR.out w8).mono ?_
  rintro e w9 ⟨rfl, hl0⟩
  have hl : Low w8 w9 := hl0
  replace HA := Lib.hid (HA.out.below hl HA.out.lt)
  replace hL := hL.trans hl
  clear hl hl0 HR HB c0 c1 c2 b0 b1 b2 heq HF
  go_wp2_with ((with_reducible refine wpList_alloc_sd rfl rfl ?_); intro w10 HY hl hz5; refine Hid.out ?_)
  refine Lib.hid ?_
  replace HY := Lib.hid HY
  have hla := HA.out.lt
  replace HA := Lib.hid (HA.out.below hl HA.out.lt)
  go_wp2_with ((with_reducible refine wpList_store_sd rfl (.tmp 9) (.tmp 35) rfl w9.heap.size rfl z rfl _ HY.out ?_); intro w11 HK hb6 hz6; refine Hid.out ?_)
  refine Lib.hid ?_
  replace HK := Lib.hid HK
  replace HA := Lib.hid (HA.out.below hb6 hla)
  replace hl : Low w9 w11 := Below.trans hl hb6
  replace hL := hL.trans hl
  obtain ⟨K, hK⟩ : ∃ g, g = w9.heap.size := ⟨_, rfl⟩
  rw [← hK] at HK ⊢
  clear HY hz5 hz6 hb6 hl hK hla
  go_wp2_with fail
  refine (sdlives_any w11 (HP.out.low hL)).mono ?_
  rintro e w20 ⟨rfl, hl⟩
  replace hL := hL.trans hl
  clear hl
  go_wp2_with fail
  go_ret
  exact ⟨rfl, hL⟩

set_option maxRecDepth 100000 in
set_option maxHeartbeats 12800000 in
theorem sdb_yy (n d a : Int) (s : List Int) (w : World) (ha : 0 ≤ a ∧ a < 4294967296) (hs : s.length = 16) (vs : AllB s) (hp : Pow10 w) (h1 : canD n d = true) (h2 : isD s = true) :
    Calls Tryd.prog 5 #[sidV n d a, addrV s] w fun e w' => e = .returned (.bool true) ∧ Below w.heap.size w w' := by
  have HP := Lib.hid hp
  have HS := Lib.hid hs
  have hlb := laid_back n d a h1 ha
  have HM := Lib.hid (fun w => make_yes n d a w h1 ha)
  have HC := Lib.hid (fun w => split_any (laidD n d a) w rfl (laidD_all n d a (by have := of_decide_eq_true h1; omega) ha))
  rw [show splitD (laidD n d a) = ⟨n, d, a⟩ by unfold splitD; rw [hlb.2]; exact hlb.1, hlb.2] at HC
  have HXL := Lib.hid (laidD_len n d a)
  unfold addrV at HC
  generalize laidD n d a = x at *
  clear hlb
  have HR := Lib.hid (fun w => split_any s w hs vs)
  rw [h2] at HR
  have hsb := split_back s vs h2
  have HD := Lib.hid (fun w => sidmake_any (splitD s).n (splitD s).d (splitD s).a w (by
    have e : splitD s = sdOf s := by unfold splitD; rw [h2]; rfl
    rw [e]; exact sdOf_arg s vs))
  rw [hsb.1, hsb.2] at HD
  unfold addrV sidV at HD
  unfold addrV at HR
  generalize splitD s = z at *
  clear hsb
  unfold sidV at HM
  unfold sidV addrV
  clear hp hs vs h1 h2 ha
  go_enter Tryd.func5, Tryd.ntmps5
  go_wp2_with (first | ((with_reducible refine wpList_box_v rfl 24 (.tmp 0) rfl [.int .i64 n, .int .i64 d, .int .u32 a] rfl ?_); intro w1 HB0 hL hz1) | ((with_reducible refine wpList_box_ad rfl (.tmp 1) rfl rfl ?_); intro w2 HA hl hz2; refine Hid.out ?_))
  refine Lib.hid ?_
  have HB : Hid (BlkD w2 w.heap.size ⟨n, d, a⟩) := Lib.hid (BlkV.below HB0 hl HB0.lt)
  rw [hz1] at HA
  replace HA := Lib.hid HA
  replace hL := hL.trans hl
  clear HB0 hz1 hz2 hl
  go_wp2_with (with_reducible refine wpList_load_sd rfl (.tmp 2) rfl w.heap.size rfl ⟨n, d, a⟩ HB.out ?_)
  refine (HM.out w2).mono ?_
  rintro e w3 ⟨rfl, hl0⟩
  have hl : Low w2 w3 := hl0
  replace HB := Lib.hid (HB.out.below hl HB.out.lt)
  replace HA := Lib.hid (HA.out.below hl HA.out.lt)
  replace hL := hL.trans hl
  clear hl hl0 HM
  unfold addrV
  go_wp2_with ((with_reducible refine wpList_alloc_v rfl 26 rfl (cellsB zero16) addr_zeroD ?_); intro w4 HY hl hz5; refine Hid.out ?_)
  refine Lib.hid ?_
  replace HY : Hid (Blk w4 26 w3.heap.size zero16) := Lib.hid HY
  have hlb := HB.out.lt
  have hla := HA.out.lt
  replace HB := Lib.hid (HB.out.below hl HB.out.lt)
  replace HA := Lib.hid (HA.out.below hl HA.out.lt)
  go_wp2_with ((refine wpList_store_addr rfl (.tmp 5) (.tmp 16) rfl w3.heap.size rfl x rfl _ zero16 HY.out rfl HXL.out ?_); intro w5 HG hb6 hz6; refine Hid.out ?_)
  refine Lib.hid ?_
  replace HG := Lib.hid HG
  replace HB := Lib.hid (HB.out.below hb6 hlb)
  replace HA := Lib.hid (HA.out.below hb6 hla)
  replace hl : Low w3 w5 := Below.trans hl hb6
  replace hL := hL.trans hl
  obtain ⟨G, hG⟩ : ∃ g, g = w3.heap.size := ⟨_, rfl⟩
  rw [← hG] at HG ⊢
  clear HY hz5 hz6 hb6 hl hG hlb hla
  go_wp2_with (with_reducible refine wpList_load_addr rfl (.tmp 5) rfl G rfl 26 x HG.out HXL.out ?_)
  refine (HC.out w5).mono ?_
  rintro e w6 ⟨rfl, hl0⟩
  have hl : Low w5 w6 := hl0
  replace HB := Lib.hid (HB.out.below hl HB.out.lt)
  replace HA := Lib.hid (HA.out.below hl HA.out.lt)
  replace hL := hL.trans hl
  clear hl hl0 HC HG
  go_wp2_with ((with_reducible refine wpList_alloc_sd rfl rfl ?_); intro w7 HY hl hz5; refine Hid.out ?_)
  refine Lib.hid ?_
  replace HY := Lib.hid HY
  have hlb := HB.out.lt
  have hla := HA.out.lt
  replace HB := Lib.hid (HB.out.below hl HB.out.lt)
  replace HA := Lib.hid (HA.out.below hl HA.out.lt)
  go_wp2_with ((with_reducible refine wpList_store_sd rfl (.tmp 7) (.tmp 23) rfl w6.heap.size rfl ⟨n, d, a⟩ rfl _ HY.out ?_); intro w8 HF hb6 hz6; refine Hid.out ?_)
  refine Lib.hid ?_
  replace HF := Lib.hid HF
  replace HB := Lib.hid (HB.out.below hb6 hlb)
  replace HA := Lib.hid (HA.out.below hb6 hla)
  replace hl : Low w6 w8 := Below.trans hl hb6
  replace hL := hL.trans hl
  obtain ⟨F, hF⟩ : ∃ g, g = w6.heap.size := ⟨_, rfl⟩
  rw [← hF] at HF ⊢
  clear HY hz5 hz6 hb6 hl hF hlb hla
  have c0 : w8.cell? ⟨F, 0, none⟩ = some (.int .i64 n) := BlkV.cell HF.out 0
  have c1 : w8.cell? ⟨F, 1, none⟩ = some (.int .i64 d) := BlkV.cell HF.out 1
  have c2 : w8.cell? ⟨F, 2, none⟩ = some (.int .u32 a) := BlkV.cell HF.out 2
  have b0 : w8.cell? ⟨w.heap.size, 0, none⟩ = some (.int .i64 n) := BlkV.cell HB.out 0
  have b1 : w8.cell? ⟨w.heap.size, 1, none⟩ = some (.int .i64 d) := BlkV.cell HB.out 1
  have b2 : w8.cell? ⟨w.heap.size, 2, none⟩ = some (.int .u32 a) := BlkV.cell HB.out 2
  have heq := fun u => eq_sd ⟨n, d, a⟩ ⟨n, d, a⟩ u
  rw [eqD_refl] at heq
  go_wp2_with (with_reducible refine wpList_load_addr rfl (.tmp 3) rfl (w.heap.size + 1) rfl 26 s HA.out HS.out ?_)
  refine (HR.out w8).mono ?_
  rintro e w9 ⟨rfl, hl0⟩
  have hl : Low w8 w9 := hl0
  replace HA := Lib.hid (HA.out.below hl HA.out.lt)
  replace hL := hL.trans hl
  clear hl hl0 HR HB c0 c1 c2 b0 b1 b2 heq HF
  go_wp2_with ((with_reducible refine wpList_alloc_sd rfl rfl ?_); intro w10 HY hl hz5; refine Hid.out ?_)
  refine Lib.hid ?_
  replace HY := Lib.hid HY
  have hla := HA.out.lt
  replace HA := Lib.hid (HA.out.below hl HA.out.lt)
  go_wp2_with ((with_reducible refine wpList_store_sd rfl (.tmp 9) (.tmp 35) rfl w9.heap.size rfl z rfl _ HY.out ?_); intro w11 HK hb6 hz6; refine Hid.out ?_)
  refine Lib.hid ?_
  replace HK := Lib.hid HK
  replace HA := Lib.hid (HA.out.below hb6 hla)
  replace hl : Low w9 w11 := Below.trans hl hb6
  replace hL := hL.trans hl
  obtain ⟨K, hK⟩ : ∃ g, g = w9.heap.size := ⟨_, rfl⟩
  rw [← hK] at HK ⊢
  clear HY hz5 hz6 hb6 hl hK hla
  go_wp2_with (with_reducible refine wpList_load_sd rfl (.tmp 9) rfl K rfl z HK.out ?_)
  refine (HD.out w11).mono ?_
  rintro e w12 ⟨rfl, hl0⟩
  have hl : Low w11 w12 := hl0
  replace HA := Lib.hid (HA.out.below hl HA.out.lt)
  replace hL := hL.trans hl
  clear hl hl0 HK HD
  go_wp2_with ((with_reducible refine wpList_alloc_v rfl 26 rfl (cellsB zero16) addr_zeroD ?_); intro w13 HY hl hz5; refine Hid.out ?_)
  refine Lib.hid ?_
  replace HY : Hid (Blk w13 26 w12.heap.size zero16) := Lib.hid HY
  have hla := HA.out.lt
  replace HA := Lib.hid (HA.out.below hl HA.out.lt)
  go_wp2_with ((refine wpList_store_addr rfl (.tmp 11) (.tmp 41) rfl w12.heap.size rfl s rfl _ zero16 HY.out rfl HS.out ?_); intro w14 HF hb6 hz6; refine Hid.out ?_)
  refine Lib.hid ?_
  replace HF := Lib.hid HF
  replace HA := Lib.hid (HA.out.below hb6 hla)
  replace hl : Low w12 w14 := Below.trans hl hb6
  replace hL := hL.trans hl
  clear HY hz5 hz6 hb6 hl hla
  have heq := fun u => eq_addr s s HS.out HS.out u
  rw [show (s == s) = true by simp] at heq
  go_wp2_with (first | (with_reducible refine wpList_load_addr_g rfl (.tmp 11) rfl w12.heap.size rfl 26 s HF.out HS.out ?_) | (with_reducible refine wpList_load_addr_g rfl (.tmp 3) rfl (w.heap.size + 1) rfl 26 s HA.out HS.out ?_))
  refine (sdlives_any w14 (HP.out.low hL)).mono ?_
  rintro e w20 ⟨rfl, hl⟩
  replace hL := hL.trans hl
  clear hl
  go_wp2_with fail
  go_ret
  exact ⟨rfl, hL⟩

theorem sdb_walk (n d a : Int) (s : List Int) (w : World) (ha : 0 ≤ a ∧ a < 4294967296) (hs : s.length = 16) (vs : AllB s) (hp : Pow10 w) :
    Calls Tryd.prog 5 #[sidV n d a, addrV s] w fun e w' => e = .returned (.bool true) ∧ Below w.heap.size w w' := by
  cases h1 : canD n d <;> cases h2 : isD s
  · exact sdb_nn n d a s w ha hs vs hp h1 h2
  · exact sdb_ny n d a s w ha hs vs hp h1 h2
  · exact sdb_yn n d a s w ha hs vs hp h1 h2
  · exact sdb_yy n d a s w ha hs vs hp h1 h2
end Go.Proofs.YtjlanbfkpaagdaaDoor
