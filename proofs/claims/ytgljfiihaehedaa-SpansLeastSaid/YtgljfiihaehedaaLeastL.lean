/- The law SpansLeast. -/
import Derived.Test.YtgljfiihaehedaaLstM
import Derived.Test.YtgljfiihaehedaaAwk
namespace Go.Proofs.Ytgljfiihaehedaa
open Go.RowKit
attribute [local go_sem] Oper.semAt_some

def PBox (W : World) (k : Nat) (x : SpI) : Prop := W.heap[k]? = some (.cells #[.int .i64 x.1, .int .i64 x.2] 58 (0, 0))
theorem PBox.lt {W : World} {k : Nat} {x : SpI} (h : PBox W k x) : k < W.heap.size := (Array.getElem?_eq_some_iff.1 h).1
theorem PBox.later {W V : World} {k : Nat} {x : SpI} (h : PBox W k x) (hb : Below W.heap.size W V) : PBox V k x := (hb.block k h.lt).trans h
theorem PBox.c0 {W : World} {k : Nat} {x : SpI} (h : PBox W k x) : W.cell? ⟨k, 0, none⟩ = some (.int .i64 x.1) := by unfold PBox at h; simp [World.cell?, h]
theorem PBox.c1 {W : World} {k : Nat} {x : SpI} (h : PBox W k x) : W.cell? ⟨k, 1, none⟩ = some (.int .i64 x.2) := by unfold PBox at h; simp [World.cell?, h]

set_option maxRecDepth 100000 in
set_option maxHeartbeats 4000000 in
theorem least_far (u : Value) (l : List SpI) (m a : Int) (pg : Nat) (hpg : pg < 65536) (w : World) (h : SAt w u l) (hg : 600 < l.length) :
    Calls Try.prog 9 #[u, .agg #[.int .i64 m, .int .i64 a], .int .u16 pg] w fun e w' => e = .returned (.bool true) ∧ Below w.heap.size w w' := by
  obtain ⟨P, hP⟩ : ∃ P, pg % 1024 = P := ⟨_, rfl⟩
  have hP2 : P < 1024 := by omega
  have hP3 : (pg : Int) % 1024 = (P : Int) := by omega
  have hP4 : Int.tmod (pg : Int) 1024 = (P : Int) := by rw [Int.tmod_eq_emod_of_nonneg (by omega)]; exact hP3
  obtain ⟨WX, hWX⟩ : ∃ x, w.alloc (.cells #[.int .i64 m, .int .i64 a] 58) = x := ⟨_, rfl⟩
  have D0 : Below w.heap.size w WX := by rw [← hWX]; exact (Below.refl _ _).alloc (Nat.le_refl _) _
  have bx : PBox WX w.heap.size (m, a) := by rw [← hWX]; exact World.alloc_heap_new w _
  have HW := Lib.hid hWX
  replace h := h.later D0
  clear hP hWX
  have h64 := len64 h
  obtain ⟨ua, uc, rfl⟩ := h.form
  obtain ⟨n, hn⟩ : ∃ n, l.length = n := ⟨_, rfl⟩
  rw [hn] at hg h64 ⊢
  have d1 : decide ((600 : Int) < (n : Int)) = true := by simp; omega
  clear hn h
  go_enter Try.func9, Try.ntmps9
  have qbx0 := bx.c0
  have qbx1 := bx.c1
  have qbxl := bx.lt
  try simp only at qbx0 qbx1
  go_wp2_with fail
  try rw [HW.out]
  refine (awake_is _).mono ?_
  rintro e w1 ⟨rfl, B1⟩
  clear qbx0 qbx1 qbxl
  have D1 := D0.trans (B1.mono D0.size)
  replace bx := bx.later B1
  have qbx0 := bx.c0
  have qbx1 := bx.c1
  have qbxl := bx.lt
  try simp only at qbx0 qbx1
  go_wp2_with fail
  go_ret
  exact ⟨rfl, D1⟩

set_option maxRecDepth 100000 in
set_option maxHeartbeats 4000000 in
theorem least_bad (u : Value) (l : List SpI) (fl : Fit l) (m a : Int) (fa : I64 a) (pg : Nat) (hpg : pg < 65536) (w : World) (h : SAt w u l) (hg : l.length ≤ 600) (c : Int) (hc : fitE l m a = c) (h0 : c ≠ 0) :
    Calls Try.prog 9 #[u, .agg #[.int .i64 m, .int .i64 a], .int .u16 pg] w fun e w' => e = .returned (.bool true) ∧ Below w.heap.size w w' := by
  obtain ⟨P, hP⟩ : ∃ P, pg % 1024 = P := ⟨_, rfl⟩
  have hP2 : P < 1024 := by omega
  have hP3 : (pg : Int) % 1024 = (P : Int) := by omega
  have hP4 : Int.tmod (pg : Int) 1024 = (P : Int) := by rw [Int.tmod_eq_emod_of_nonneg (by omega)]; exact hP3
  obtain ⟨WX, hWX⟩ : ∃ x, w.alloc (.cells #[.int .i64 m, .int .i64 a] 58) = x := ⟨_, rfl⟩
  have D0 : Below w.heap.size w WX := by rw [← hWX]; exact (Below.refl _ _).alloc (Nat.le_refl _) _
  have bx : PBox WX w.heap.size (m, a) := by rw [← hWX]; exact World.alloc_heap_new w _
  have HW := Lib.hid hWX
  replace h := h.later D0
  clear hP hWX
  have h64 := len64 h
  have h4 : c ≠ 4 := by rw [← hc]; exact fitE_ne l m a
  have HF := Lib.hid (fun v w h => First_bad l fl m a fa c hc h0 v w h)
  have HB := Lib.hid (fun v w h => Best_bad l fl m a fa c hc h0 v w h)
  obtain ⟨ua, uc, rfl⟩ := h.form
  have d1 : decide ((600 : Int) < (l.length : Int)) = false := by simp; omega
  have hq : (c != 0) = true := by simp [h0]
  have hq4 : (c != 4) = true := by simp [h4]
  clear hc h4 h0
  go_enter Try.func9, Try.ntmps9
  have qbx0 := bx.c0
  have qbx1 := bx.c1
  have qbxl := bx.lt
  try simp only at qbx0 qbx1
  go_wp2_with fail
  try rw [HW.out]
  refine (HF.out _ _ h).mono ?_
  rintro e w1 ⟨rfl, B1⟩
  clear qbx0 qbx1 qbxl
  have D1 := D0.trans (B1.mono D0.size)
  replace h := h.later B1
  replace bx := bx.later B1
  have qbx0 := bx.c0
  have qbx1 := bx.c1
  have qbxl := bx.lt
  try simp only at qbx0 qbx1
  go_wp2_with fail
  refine (HB.out _ _ h).mono ?_
  rintro e w2 ⟨rfl, B2⟩
  clear qbx0 qbx1 qbxl
  have D2 := D1.trans (B2.mono D1.size)
  replace h := h.later B2
  replace bx := bx.later B2
  have qbx0 := bx.c0
  have qbx1 := bx.c1
  have qbxl := bx.lt
  try simp only at qbx0 qbx1
  go_wp2_with fail
  refine (awake_is _).mono ?_
  rintro e w3 ⟨rfl, B3⟩
  clear qbx0 qbx1 qbxl
  have D3 := D2.trans (B3.mono D2.size)
  replace h := h.later B3
  replace bx := bx.later B3
  have qbx0 := bx.c0
  have qbx1 := bx.c1
  have qbxl := bx.lt
  try simp only at qbx0 qbx1
  go_wp2_with fail
  go_ret
  exact ⟨rfl, D3⟩

set_option maxRecDepth 100000 in
set_option maxHeartbeats 4000000 in
theorem least_none (u : Value) (L : List Sp) (hL : SetL 0 L) (m al : Nat) (hm1 : 1 ≤ m) (hm2 : m ≤ 1024) (ha1 : 1 ≤ al) (ha2 : al ≤ 1024) (hal : alB (al : Int) = true) (pg : Nat) (hpg : pg < 65536) (w : World) (h : SAt w u (toI L)) (hg : (toI L).length ≤ 600) (hF : L.filter (fits m al) = []) :
    Calls Try.prog 9 #[u, .agg #[.int .i64 (m : Int), .int .i64 (al : Int)], .int .u16 pg] w fun e w' => e = .returned (.bool true) ∧ Below w.heap.size w w' := by
  obtain ⟨P, hP⟩ : ∃ P, pg % 1024 = P := ⟨_, rfl⟩
  have hP2 : P < 1024 := by omega
  have hP3 : (pg : Int) % 1024 = (P : Int) := by omega
  have hP4 : Int.tmod (pg : Int) 1024 = (P : Int) := by rw [Int.tmod_eq_emod_of_nonneg (by omega)]; exact hP3
  obtain ⟨WX, hWX⟩ : ∃ x, w.alloc (.cells #[.int .i64 (m : Int), .int .i64 (al : Int)] 58) = x := ⟨_, rfl⟩
  have D0 : Below w.heap.size w WX := by rw [← hWX]; exact (Below.refl _ _).alloc (Nat.le_refl _) _
  have bx : PBox WX w.heap.size ((m : Int), (al : Int)) := by rw [← hWX]; exact World.alloc_heap_new w _
  have HW := Lib.hid hWX
  replace h := h.later D0
  clear hP hWX
  have HF := Lib.hid (fun v w h => First_none L hL m al hm1 hm2 hal hF v w h)
  have HB := Lib.hid (fun v w h => Best_none L hL m al hm1 hm2 hal hF v w h)
  have hpf := pl_none hL ha1 hF P
  have HP := Lib.hid (fun v w h => place_is L hL m al P hm1 hm2 ha1 ha2 hP2 v w h)
  rw [hpf] at HP
  obtain ⟨ua, uc, rfl⟩ := h.form
  have d1 : decide ((600 : Int) < ((toI L).length : Int)) = false := by simp; omega
  clear hpf hF hal
  go_enter Try.func9, Try.ntmps9
  have qbx0 := bx.c0
  have qbx1 := bx.c1
  have qbxl := bx.lt
  try simp only at qbx0 qbx1
  go_wp2_with fail
  try rw [HW.out]
  refine (HF.out _ _ h).mono ?_
  rintro e w1 ⟨rfl, B1⟩
  clear qbx0 qbx1 qbxl
  have D1 := D0.trans (B1.mono D0.size)
  replace h := h.later B1
  replace bx := bx.later B1
  have qbx0 := bx.c0
  have qbx1 := bx.c1
  have qbxl := bx.lt
  try simp only at qbx0 qbx1
  go_wp2_with fail
  refine (HB.out _ _ h).mono ?_
  rintro e w2 ⟨rfl, B2⟩
  clear qbx0 qbx1 qbxl
  have D2 := D1.trans (B2.mono D1.size)
  replace h := h.later B2
  replace bx := bx.later B2
  have qbx0 := bx.c0
  have qbx1 := bx.c1
  have qbxl := bx.lt
  try simp only at qbx0 qbx1
  go_wp2_with fail
  refine (HP.out _ _ h).mono ?_
  rintro e w3 ⟨rfl, B3⟩
  clear qbx0 qbx1 qbxl
  have D3 := D2.trans (B3.mono D2.size)
  replace h := h.later B3
  replace bx := bx.later B3
  have qbx0 := bx.c0
  have qbx1 := bx.c1
  have qbxl := bx.lt
  try simp only at qbx0 qbx1
  go_wp2_with fail
  refine (awake_is _).mono ?_
  rintro e w4 ⟨rfl, B4⟩
  clear qbx0 qbx1 qbxl
  have D4 := D3.trans (B4.mono D3.size)
  replace h := h.later B4
  replace bx := bx.later B4
  have qbx0 := bx.c0
  have qbx1 := bx.c1
  have qbxl := bx.lt
  try simp only at qbx0 qbx1
  go_wp2_with fail
  go_ret
  exact ⟨rfl, D4⟩

set_option maxRecDepth 100000 in
set_option maxHeartbeats 4000000 in
theorem least_ok (u : Value) (L : List Sp) (hL : SetL 0 L) (m al : Nat) (hm1 : 1 ≤ m) (hm2 : m ≤ 1024) (ha1 : 1 ≤ al) (ha2 : al ≤ 1024) (hal : alB (al : Int) = true) (pg : Nat) (hpg : pg < 65536) (w : World) (h : SAt w u (toI L)) (hg : (toI L).length ≤ 600) (x : Sp) (F : List Sp) (hF : L.filter (fits m al) = x :: F) :
    Calls Try.prog 9 #[u, .agg #[.int .i64 (m : Int), .int .i64 (al : Int)], .int .u16 pg] w fun e w' => e = .returned (.bool true) ∧ Below w.heap.size w w' := by
  obtain ⟨P, hP⟩ : ∃ P, pg % 1024 = P := ⟨_, rfl⟩
  have hP2 : P < 1024 := by omega
  have hP3 : (pg : Int) % 1024 = (P : Int) := by omega
  have hP4 : Int.tmod (pg : Int) 1024 = (P : Int) := by rw [Int.tmod_eq_emod_of_nonneg (by omega)]; exact hP3
  obtain ⟨WX, hWX⟩ : ∃ x, w.alloc (.cells #[.int .i64 (m : Int), .int .i64 (al : Int)] 58) = x := ⟨_, rfl⟩
  have D0 : Below w.heap.size w WX := by rw [← hWX]; exact (Below.refl _ _).alloc (Nat.le_refl _) _
  have bx : PBox WX w.heap.size ((m : Int), (al : Int)) := by rw [← hWX]; exact World.alloc_heap_new w _
  have HW := Lib.hid hWX
  replace h := h.later D0
  clear hP hWX
  have HF := Lib.hid (fun v w h => First_ok L hL m al hm1 hm2 hal x F hF v w h)
  have HB := Lib.hid (fun v w h => Best_ok L hL m al hm1 hm2 hal x F hF v w h)
  have hzm : F.foldl minS x ∈ L.filter (fits m al) := by rw [hF]; exact minS_mem F x
  obtain ⟨pa, _⟩ := pl_fit hL hm1 ha1 (show x ∈ L.filter (fits m al) by rw [hF]; simp)
  obtain ⟨pb, wb⟩ := pl_fit hL hm1 ha1 hzm
  have hle := fun h => pl_least hL hm1 ha1 hF (p := P) h
  have bound : ∀ y, plB L m al y = true → y < 1024 := fun y hy => by
    obtain ⟨_, s, hs, h1, h2⟩ := (pl_iff L m al y hL).1 hy
    have := hL.val s hs
    omega
  have ba := bound _ pa
  have bb := bound _ pb
  obtain ⟨A, hA⟩ : ∃ A, algn x.1 al = A := ⟨_, rfl⟩
  obtain ⟨E, hE⟩ : ∃ E, algn (F.foldl minS x).1 al = E := ⟨_, rfl⟩
  rw [hA] at HF pa ba hle
  rw [hE] at HB pb wb bb
  have HPa := Lib.hid (fun v w h => place_is L hL m al A hm1 hm2 ha1 ha2 ba v w h)
  have HPb := Lib.hid (fun v w h => place_is L hL m al E hm1 hm2 ha1 ha2 bb v w h)
  have HPp := Lib.hid (fun v w h => place_is L hL m al P hm1 hm2 ha1 ha2 hP2 v w h)
  rw [pa] at HPa
  rw [pb] at HPb
  have HWp := Lib.hid (fun v w h => within_is L hL P hP2 v w h)
  have HWb := Lib.hid (fun v w h => within_is L hL E bb v w h)
  rw [wb] at HWb
  obtain ⟨Z, hZ⟩ : ∃ Z, (F.foldl minS x).2 = Z := ⟨_, rfl⟩
  obtain ⟨Y, hY⟩ : ∃ Y, witF L P = Y := ⟨_, rfl⟩
  rw [hZ] at HWb hle
  rw [hY] at HWp hle
  obtain ⟨ua, uc, rfl⟩ := h.form
  have d1 : decide ((600 : Int) < ((toI L).length : Int)) = false := by simp; omega
  clear hF hal hzm pa pb wb bound hA hE hZ hY
  cases hp : plB L m al P with
  | false =>
    rw [hp] at HPp
    clear hp hle
    go_enter Try.func9, Try.ntmps9
    have qbx0 := bx.c0
    have qbx1 := bx.c1
    have qbxl := bx.lt
    try simp only at qbx0 qbx1
    go_wp2_with fail
    try rw [HW.out]
    refine (HF.out _ _ h).mono ?_
    rintro e w1 ⟨rfl, B1⟩
    clear qbx0 qbx1 qbxl
    have D1 := D0.trans (B1.mono D0.size)
    replace h := h.later B1
    replace bx := bx.later B1
    have qbx0 := bx.c0
    have qbx1 := bx.c1
    have qbxl := bx.lt
    try simp only at qbx0 qbx1
    go_wp2_with fail
    refine (HB.out _ _ h).mono ?_
    rintro e w2 ⟨rfl, B2⟩
    clear qbx0 qbx1 qbxl
    have D2 := D1.trans (B2.mono D1.size)
    replace h := h.later B2
    replace bx := bx.later B2
    have qbx0 := bx.c0
    have qbx1 := bx.c1
    have qbxl := bx.lt
    try simp only at qbx0 qbx1
    go_wp2_with fail
    refine (HPa.out _ _ h).mono ?_
    rintro e w3 ⟨rfl, B3⟩
    clear qbx0 qbx1 qbxl
    have D3 := D2.trans (B3.mono D2.size)
    replace h := h.later B3
    replace bx := bx.later B3
    have qbx0 := bx.c0
    have qbx1 := bx.c1
    have qbxl := bx.lt
    try simp only at qbx0 qbx1
    go_wp2_with fail
    refine (HPb.out _ _ h).mono ?_
    rintro e w4 ⟨rfl, B4⟩
    clear qbx0 qbx1 qbxl
    have D4 := D3.trans (B4.mono D3.size)
    replace h := h.later B4
    replace bx := bx.later B4
    have qbx0 := bx.c0
    have qbx1 := bx.c1
    have qbxl := bx.lt
    try simp only at qbx0 qbx1
    go_wp2_with fail
    refine (HPp.out _ _ h).mono ?_
    rintro e w5 ⟨rfl, B5⟩
    clear qbx0 qbx1 qbxl
    have D5 := D4.trans (B5.mono D4.size)
    replace h := h.later B5
    replace bx := bx.later B5
    have qbx0 := bx.c0
    have qbx1 := bx.c1
    have qbxl := bx.lt
    try simp only at qbx0 qbx1
    go_wp2_with fail
    refine (awake_is _).mono ?_
    rintro e w6 ⟨rfl, B6⟩
    clear qbx0 qbx1 qbxl
    have D6 := D5.trans (B6.mono D5.size)
    replace h := h.later B6
    replace bx := bx.later B6
    have qbx0 := bx.c0
    have qbx1 := bx.c1
    have qbxl := bx.lt
    try simp only at qbx0 qbx1
    go_wp2_with fail
    go_ret
    exact ⟨rfl, D6⟩
  | true =>
    rw [hp] at HPp
    obtain ⟨l1, l2⟩ := hle hp
    have i1 : (A : Int) ≤ (P : Int) := by omega
    have i2 : (Z : Int) ≤ (Y : Int) := by omega
    have j1 : decide ((A : Int) ≤ (P : Int)) = true := by simpa using i1
    have j2 : decide ((Z : Int) ≤ (Y : Int)) = true := by simpa using i2
    have j3 : decide (A ≤ P) = true := by simpa using l1
    have j4 : decide (Z ≤ Y) = true := by simpa using l2
    clear hp hle
    go_enter Try.func9, Try.ntmps9
    have qbx0 := bx.c0
    have qbx1 := bx.c1
    have qbxl := bx.lt
    try simp only at qbx0 qbx1
    go_wp2_with fail
    try rw [HW.out]
    refine (HF.out _ _ h).mono ?_
    rintro e w1 ⟨rfl, B1⟩
    clear qbx0 qbx1 qbxl
    have D1 := D0.trans (B1.mono D0.size)
    replace h := h.later B1
    replace bx := bx.later B1
    have qbx0 := bx.c0
    have qbx1 := bx.c1
    have qbxl := bx.lt
    try simp only at qbx0 qbx1
    go_wp2_with fail
    refine (HB.out _ _ h).mono ?_
    rintro e w2 ⟨rfl, B2⟩
    clear qbx0 qbx1 qbxl
    have D2 := D1.trans (B2.mono D1.size)
    replace h := h.later B2
    replace bx := bx.later B2
    have qbx0 := bx.c0
    have qbx1 := bx.c1
    have qbxl := bx.lt
    try simp only at qbx0 qbx1
    go_wp2_with fail
    refine (HPa.out _ _ h).mono ?_
    rintro e w3 ⟨rfl, B3⟩
    clear qbx0 qbx1 qbxl
    have D3 := D2.trans (B3.mono D2.size)
    replace h := h.later B3
    replace bx := bx.later B3
    have qbx0 := bx.c0
    have qbx1 := bx.c1
    have qbxl := bx.lt
    try simp only at qbx0 qbx1
    go_wp2_with fail
    refine (HPb.out _ _ h).mono ?_
    rintro e w4 ⟨rfl, B4⟩
    clear qbx0 qbx1 qbxl
    have D4 := D3.trans (B4.mono D3.size)
    replace h := h.later B4
    replace bx := bx.later B4
    have qbx0 := bx.c0
    have qbx1 := bx.c1
    have qbxl := bx.lt
    try simp only at qbx0 qbx1
    go_wp2_with fail
    refine (HPp.out _ _ h).mono ?_
    rintro e w5 ⟨rfl, B5⟩
    clear qbx0 qbx1 qbxl
    have D5 := D4.trans (B5.mono D4.size)
    replace h := h.later B5
    replace bx := bx.later B5
    have qbx0 := bx.c0
    have qbx1 := bx.c1
    have qbxl := bx.lt
    try simp only at qbx0 qbx1
    go_wp2_with fail
    refine (HWp.out _ _ h).mono ?_
    rintro e w6 ⟨rfl, B6⟩
    clear qbx0 qbx1 qbxl
    have D6 := D5.trans (B6.mono D5.size)
    replace h := h.later B6
    replace bx := bx.later B6
    have qbx0 := bx.c0
    have qbx1 := bx.c1
    have qbxl := bx.lt
    try simp only at qbx0 qbx1
    go_wp2_with fail
    refine (HWb.out _ _ h).mono ?_
    rintro e w7 ⟨rfl, B7⟩
    clear qbx0 qbx1 qbxl
    have D7 := D6.trans (B7.mono D6.size)
    replace h := h.later B7
    replace bx := bx.later B7
    have qbx0 := bx.c0
    have qbx1 := bx.c1
    have qbxl := bx.lt
    try simp only at qbx0 qbx1
    go_wp2_with fail
    refine (awake_is _).mono ?_
    rintro e w8 ⟨rfl, B8⟩
    clear qbx0 qbx1 qbxl
    have D8 := D7.trans (B8.mono D7.size)
    replace h := h.later B8
    replace bx := bx.later B8
    have qbx0 := bx.c0
    have qbx1 := bx.c1
    have qbxl := bx.lt
    try simp only at qbx0 qbx1
    go_wp2_with fail
    go_ret
    exact ⟨rfl, D8⟩
end Go.Proofs.Ytgljfiihaehedaa
