/-
  Two parts of a row, each in order, one behind the other, become one in order (slices.symMergeCmpFunc).
-/
import Derived.Test.YtogdfjkbkhnobaaSb
namespace Go.Proofs.Ytogdfjkbkhnobaa
open Go.Shelf Go.RowKit Go.Lib Go.Sort
set_option maxRecDepth 1000000

/-- What two numbers are held against each other by: a call that may draw and lay blocks, and turns nothing. -/
def CmpOk (g : Nat) (cb : Array Value) (cf : Int → Int → Int) (N : Nat) (w0 : World) (blk off n : Nat) : Prop :=
  ∀ (W : World) (f : Nat → Int), Put w0 blk off n f W → ∀ x y : Int, 0 ≤ x → x < N → 0 ≤ y → y < N →
    Calls Try.prog g (#[enI x, enI y] ++ cb) W fun e w' => e = .returned (.int .i64 (cf x y)) ∧ ∃ q os, w' = grow (W.drewN q) os
theorem Put.grown {w0 W : World} {blk off n : Nat} {f : Nat → Int} (h : Put w0 blk off n f W) (m : Nat) (os : Array Obj) : Put w0 blk off n f (grow (W.drewN m) os) := by
  obtain ⟨d, h1, h2, h3⟩ := h
  exact ⟨d, h1, h2, h3.grown m os⟩
theorem Put.cmp {w0 W : World} {blk off n : Nat} {f : Nat → Int} (h : Put w0 blk off n f W) {g : Nat} {cb : Array Value} {cf : Int → Int → Int} {N : Nat} (hC : CmpOk g cb cf N w0 blk off n) {x y : Int} (x1 : 0 ≤ x) (x2 : x < N) (y1 : 0 ≤ y) (y2 : y < N) (m : Nat) (os : Array Obj) :
    Calls Try.prog g (#[enI x, enI y] ++ cb) (grow (W.drewN m) os) fun e w' => e = .returned (.int .i64 (cf x y)) ∧ ∃ q os', w' = grow ((grow (W.drewN m) os).drewN q) os' :=
  hC _ f (h.grown m os) x y x1 x2 y1 y2
theorem Put.cl {w0 W : World} {blk off : Nat} {f : Nat → Int} {d0 : Array Int} (h : Put w0 blk off d0.size f W) (R : Row1 enI w0 blk off d0) (i : Nat) (hi : i < d0.size) (m : Nat) (os : Array Obj) : (grow (W.drewN m) os).cell? ⟨blk, off + i, none⟩ = some (enI (f i)) := by
  obtain ⟨d, h1, h2, h3⟩ := h
  subst h2
  exact h3.cl R h1 i (by omega) m os
/-- What an exchange wants of memory, and leaves. -/
theorem Put.swap {w0 W : World} {blk off : Nat} {f : Nat → Int} {d0 : Array Int} (h : Put w0 blk off d0.size f W) (R : Row1 enI w0 blk off d0) (i j : Nat) (hi : i < d0.size) (hj : j < d0.size) :
    (W.cell? ⟨blk, off + i, none⟩ = some (enI (f i)) ∧ W.cell? ⟨blk, off + j, none⟩ = some (enI (f j))) ∧ (W.frozen? ⟨blk, off + i, none⟩ = false ∧ W.frozen? ⟨blk, off + j, none⟩ = false) ∧ (∃ u, (W.setCell ⟨blk, off + i, none⟩ (enI (f j))).cell? ⟨blk, off + j, none⟩ = some u) ∧
    Put w0 blk off d0.size (swp f i j) ((W.setCell ⟨blk, off + i, none⟩ (enI (f j))).setCell ⟨blk, off + j, none⟩ (enI (f i))).drew := by
  obtain ⟨d, h1, h2, h3⟩ := h
  subst h2
  exact ⟨⟨h3.c1 R h1 i (by omega), h3.c1 R h1 j (by omega)⟩, ⟨h3.f1 R h1 i (by omega), h3.f1 R h1 j (by omega)⟩, h3.c2 R h1 i j (by omega) (by omega) _,
    ⟨Go.Sort.swp d i j, by rw [size_swp]; exact h1, toF_swp d i j (by omega) (by omega), h3.swapped R i j (by omega) (by omega)⟩⟩

section
variable {w0 : World} {blk off : Nat} {d0 : Array Int} {key : Int → Int} {tie : Int → Int → Prop} {g : Nat} {cb : Array Value} {cf : Int → Int → Int} {N : Nat}

set_option maxHeartbeats 16000000 in
theorem sym_left (R : Row1 enI w0 blk off d0) (hsz : d0.size < 1000000) (ht : TieOk tie) (eg : ∀ args w, (callFunc g args).run Try.prog w = .ok (.enter g args) w) (hC : CmpOk g cb cf N w0 blk off d0.size) (hcf : ∀ x y, cf x y < 0 ↔ key x < key y)
    (cap a b : Nat) (f : Nat → Int) (w : World) (S : Put w0 blk off d0.size f w) (hr : ∀ k, k < d0.size → 0 ≤ f k ∧ f k < N) (h2 : a + 1 < b) (h3 : b ≤ d0.size) (hs2 : Srt key tie f (a + 1) b) (hc : Crs tie f a (a + 1) b) :
    Calls Try.prog 31 #[.slice (some ⟨blk, off, none⟩) d0.size cap, .int .i64 a, .int .i64 (a + 1 : Nat), .int .i64 b, .func (.func g) #[] cb] w fun e w' => e = .returned (.tuple #[]) ∧ ∃ f', Put w0 blk off d0.size f' w' ∧ Prm f f' a b ∧ Srt key tie f' a b := by
  have S0 := hid S
  have HC := hid hC
  have HR := hid hr
  have HT := hid ht
  have HS := hid (And.intro hs2 hc)
  have HF := hid hcf
  clear S hC hr ht hs2 hc hcf
  have mx := mixed
  obtain ⟨m, hm⟩ : ∃ m, m = a + 1 := ⟨_, rfl⟩
  have HM := hid hm
  rw [← hm]
  have e1 : (m : Int) - a = 1 := by omega
  have h2' : m < b := by omega
  clear hm h2
  go_enter Try.func31, Try.ntmps31
  go_wp2_with fail
  go_loopg [10, 11] b (fun g1 vi vj wr => ∃ (i j : Nat), vi = .int .i64 i ∧ vj = .int .i64 j ∧ m ≤ i ∧ i ≤ j ∧ j ≤ b ∧ j - i ≤ g1 ∧ Hid (Put w0 blk off d0.size f wr) ∧ Hid ((∀ k, m ≤ k → k < i → key (f k) < key (f a)) ∧ (j < b → ¬ key (f j) < key (f a))))
  case atStart => exact ⟨m, b, rfl, rfl, by omega, by omega, by omega, by omega, S0, hid ⟨fun k _ _ => by omega, fun h => by omega⟩⟩
  case round =>
    clear S0
    obtain ⟨i, j, rfl, rfl, hmi, hij, hjb, hg1, S1, H⟩ := hrel
    by_cases hlt : i < j
    · have hltz : (i : Int) < (j : Int) := by omega
      obtain ⟨h, hh⟩ : ∃ h, h = (i + j) / 2 := ⟨_, rfl⟩
      have he : ((i : Int) + (j : Int)) / 2 = (h : Int) := by omega
      have hh1 : i ≤ h := by omega
      have hh2 : h < j := by omega
      clear hh
      obtain ⟨x, hx⟩ : ∃ x, x = f h := ⟨_, rfl⟩
      obtain ⟨y, hy⟩ : ∃ y, y = f a := ⟨_, rfl⟩
      have c1 := S1.out.cl R h (by omega)
      have c2 := S1.out.cl R a (by have := HM.out; omega)
      have hcm := S1.out.cmp HC.out (HR.out h (by omega)).1 (HR.out h (by omega)).2 (HR.out a (by have := HM.out; omega)).1 (HR.out a (by have := HM.out; omega)).2
      rw [← hx] at c1 hcm
      rw [← hy] at c2 hcm
      have p1 : (h : Int) < d0.size := by omega
      have p2 : (a : Int) < d0.size := by have := HM.out; omega
      have HX := hid (And.intro hx hy)
      clear hx hy
      by_cases hv : cf x y < 0
      · have hd : decide (cf x y < 0) = true := decide_eq_true hv
        have HV := hid hv
        go_wp2_with fail
        go_quiet_grown (first | (go_at_fn g; refine Calls.grown_of (hcm _ _)))
        have S2 := hid (S1.out.grown nq osq)
        clear c1 c2 hcm S1
        generalize grow (wr.drewN nq) osq = w2 at S2 ⊢
        go_wp2_with fail
        go_roundg (j - (h + 1))
        case measure => omega
        case rel =>
          refine ⟨h + 1, j, by go_num, rfl, by omega, by omega, hjb, Nat.le_refl _, S2, hid ⟨fun k k1 k2 => ?_, H.out.2⟩⟩
          by_cases hk : k < i
          · exact H.out.1 k k1 hk
          · have q := (HF.out x y).1 HV.out
            rw [HX.out.1, HX.out.2] at q
            by_cases e : k = h
            · rw [e]; exact q
            · have := key_of_lt (HS.out.1 k h (by have := HM.out; omega) (by omega) (by omega))
              omega
      · have hd : decide (cf x y < 0) = false := decide_eq_false hv
        have HV := hid hv
        go_wp2_with fail
        go_quiet_grown (first | (go_at_fn g; refine Calls.grown_of (hcm _ _)))
        have S2 := hid (S1.out.grown nq osq)
        clear c1 c2 hcm S1
        generalize grow (wr.drewN nq) osq = w2 at S2 ⊢
        go_wp2_with fail
        go_roundg (h - i)
        case measure => omega
        case rel =>
          have q : ¬ key (f h) < key (f a) := fun q => by
            have v := HV.out
            rw [HX.out.1, HX.out.2] at v
            exact absurd ((HF.out _ _).2 q) (by omega)
          exact ⟨i, h, rfl, rfl, hmi, by omega, by omega, Nat.le_refl _, S2, hid ⟨H.out.1, fun _ => by omega⟩⟩
    · have hltz : ¬ (i : Int) < (j : Int) := by omega
      have e : j = i := by omega
      subst e
      have D := hid (show Srt key tie (rot f a (a + 1) j) a b from one_left HT.out HS.out.1 HS.out.2 (by have := HM.out; omega) hjb (fun k k1 k2 => H.out.1 k (by have := HM.out; omega) k2) (fun q => H.out.2 q))
      clear H HS HC HF
      go_wp2_with fail
      go_loopg [13] b (fun g1 vk wr => ∃ k : Nat, vk = .int .i64 k ∧ a ≤ k ∧ k + 1 ≤ j ∧ j - k ≤ g1 ∧ Hid (Put w0 blk off d0.size (rot f a (a + 1) (k + 1)) wr))
      case atStart => exact ⟨a, rfl, Nat.le_refl _, by have := HM.out; omega, by omega, hid (by rw [rot_first]; exact S1.out)⟩
      case round =>
        clear S1
        obtain ⟨k, rfl, hak, hkj, hg1, S1⟩ := hrel
        by_cases hlt : k + 1 < j
        · have hltz : (k : Int) < (j : Int) - 1 := by omega
          obtain ⟨kN, hkN⟩ : ∃ q, q = k + 1 := ⟨_, rfl⟩
          have ea : ((k : Int) + 1).toNat = kN := by omega
          have pa : (k : Int) + 1 < (d0.size : Int) := by omega
          have pb : (k : Int) < (d0.size : Int) := by omega
          have pc : (0 : Int) ≤ (k : Int) + 1 := by omega
          have ra : IntKind.i64.wrap ((k : Int) + 1) = (k : Int) + 1 := by rw [IntKind.wrap_i64]; omega
          obtain ⟨⟨c1, c2⟩, ⟨f1, f2⟩, ⟨u, c3⟩, S3⟩ := S1.out.swap R k kN (by omega) (by omega)
          have S4 := hid S3
          clear S3
          generalize rot f a (a + 1) (k + 1) k = x at c1 S4
          generalize rot f a (a + 1) (k + 1) kN = y at c2 c3 S4
          have HK := hid hkN
          clear hkN
          go_wp2_with fail
          go_region
          clear c1 c2 c3 f1 f2 S1
          generalize ((wr.setCell ⟨blk, off + k, none⟩ (enI y)).setCell ⟨blk, off + kN, none⟩ (enI x)).drew = w3 at S4 ⊢
          go_wp2_with fail
          go_roundg (j - (k + 1))
          case measure => omega
          case rel => exact ⟨k + 1, by go_num, by omega, by omega, Nat.le_refl _, hid (by have q := S4.out; rw [HK.out, rot_up f a k hak] at q; exact q)⟩
        · have hltz : ¬ (k : Int) < (j : Int) - 1 := by omega
          have e : j = k + 1 := by omega
          subst e
          go_wp2_with fail
          (try simp only [Exit.inBlock, Exit.then]); refine bodyPost_ret (results_none rfl _ _ _) rfl ?_
          exact ⟨rfl, _, S1.out, (Prm.rot (by omega) (by omega)).wide (Nat.le_refl _) hjb, D.out⟩

set_option maxHeartbeats 16000000 in
theorem sym_right (R : Row1 enI w0 blk off d0) (hsz : d0.size < 1000000) (ht : TieOk tie) (eg : ∀ args w, (callFunc g args).run Try.prog w = .ok (.enter g args) w) (hC : CmpOk g cb cf N w0 blk off d0.size) (hcf : ∀ x y, cf x y < 0 ↔ key x < key y)
    (cap a m : Nat) (f : Nat → Int) (w : World) (S : Put w0 blk off d0.size f w) (hr : ∀ k, k < d0.size → 0 ≤ f k ∧ f k < N) (h2 : a + 1 < m) (h3 : m + 1 ≤ d0.size) (hs2 : Srt key tie f a m) (hc : Crs tie f a m (m + 1)) :
    Calls Try.prog 31 #[.slice (some ⟨blk, off, none⟩) d0.size cap, .int .i64 a, .int .i64 m, .int .i64 (m + 1 : Nat), .func (.func g) #[] cb] w fun e w' => e = .returned (.tuple #[]) ∧ ∃ f', Put w0 blk off d0.size f' w' ∧ Prm f f' a (m + 1) ∧ Srt key tie f' a (m + 1) := by
  have S0 := hid S
  have HC := hid hC
  have HR := hid hr
  have HT := hid ht
  have HS := hid (And.intro hs2 hc)
  have HF := hid hcf
  clear S hC hr ht hs2 hc hcf
  have mx := mixed
  obtain ⟨b, hb⟩ : ∃ b, b = m + 1 := ⟨_, rfl⟩
  have HM := hid hb
  rw [← hb]
  have e0 : ¬ (m : Int) - a = 1 := by omega
  have e0b : ((m : Int) - a == 1) = false := by simpa using e0
  have e1 : (b : Int) - m = 1 := by omega
  have h2' : m < b := by omega
  rw [← hb] at h3
  clear hb
  go_enter Try.func31, Try.ntmps31
  go_wp2_with fail
  go_loopg [14, 15] b (fun g1 vi vj wr => ∃ (i j : Nat), vi = .int .i64 i ∧ vj = .int .i64 j ∧ a ≤ i ∧ i ≤ j ∧ j ≤ m ∧ j - i ≤ g1 ∧ Hid (Put w0 blk off d0.size f wr) ∧ Hid ((a < i → ¬ key (f m) < key (f (i - 1))) ∧ ∀ k, j ≤ k → k < m → key (f m) < key (f k)))
  case atStart => exact ⟨a, m, rfl, rfl, by omega, by omega, by omega, by omega, S0, hid ⟨fun h => by omega, fun k _ _ => by omega⟩⟩
  case round =>
    clear S0
    obtain ⟨i, j, rfl, rfl, hmi, hij, hjb, hg1, S1, H⟩ := hrel
    by_cases hlt : i < j
    · have hltz : (i : Int) < (j : Int) := by omega
      obtain ⟨h, hh⟩ : ∃ h, h = (i + j) / 2 := ⟨_, rfl⟩
      have he : ((i : Int) + (j : Int)) / 2 = (h : Int) := by omega
      have hh1 : i ≤ h := by omega
      have hh2 : h < j := by omega
      clear hh
      obtain ⟨x, hx⟩ : ∃ x, x = f m := ⟨_, rfl⟩
      obtain ⟨y, hy⟩ : ∃ y, y = f h := ⟨_, rfl⟩
      have c1 := S1.out.cl R m (by omega)
      have c2 := S1.out.cl R h (by omega)
      have hcm := S1.out.cmp HC.out (HR.out m (by omega)).1 (HR.out m (by omega)).2 (HR.out h (by omega)).1 (HR.out h (by omega)).2
      rw [← hx] at c1 hcm
      rw [← hy] at c2 hcm
      have p1 : (h : Int) < d0.size := by omega
      have p2 : (m : Int) < d0.size := by omega
      have HX := hid (And.intro hx hy)
      clear hx hy
      by_cases hv : cf x y < 0
      · have hd : decide (cf x y < 0) = true := decide_eq_true hv
        have HV := hid hv
        go_wp2_with fail
        go_quiet_grown (first | (go_at_fn g; refine Calls.grown_of (hcm _ _)))
        have S2 := hid (S1.out.grown nq osq)
        clear c1 c2 hcm S1
        generalize grow (wr.drewN nq) osq = w2 at S2 ⊢
        go_wp2_with fail
        go_roundg (h - i)
        case measure => omega
        case rel =>
          refine ⟨i, h, rfl, rfl, hmi, by omega, by omega, Nat.le_refl _, S2, hid ⟨H.out.1, fun k k1 k2 => ?_⟩⟩
          by_cases hk : j ≤ k
          · exact H.out.2 k hk k2
          · have q := (HF.out x y).1 HV.out
            rw [HX.out.1, HX.out.2] at q
            by_cases e : k = h
            · rw [e]; exact q
            · have := key_of_lt (HS.out.1 h k (by omega) (by omega) (by omega))
              omega
      · have hd : decide (cf x y < 0) = false := decide_eq_false hv
        have HV := hid hv
        go_wp2_with fail
        go_quiet_grown (first | (go_at_fn g; refine Calls.grown_of (hcm _ _)))
        have S2 := hid (S1.out.grown nq osq)
        clear c1 c2 hcm S1
        generalize grow (wr.drewN nq) osq = w2 at S2 ⊢
        go_wp2_with fail
        go_roundg (j - (h + 1))
        case measure => omega
        case rel =>
          have q : ¬ key (f m) < key (f h) := fun q => by
            have v := HV.out
            rw [HX.out.1, HX.out.2] at v
            exact absurd ((HF.out _ _).2 q) (by omega)
          exact ⟨h + 1, j, by go_num, rfl, by omega, by omega, by omega, Nat.le_refl _, S2, hid ⟨fun _ => by rw [Nat.add_sub_cancel]; omega, H.out.2⟩⟩
    · have hltz : ¬ (i : Int) < (j : Int) := by omega
      have e : j = i := by omega
      subst e
      have D := hid (show Srt key tie (rot f j m (m + 1)) a (m + 1) from one_right HT.out HS.out.1 HS.out.2 hmi hjb (fun q => by have := H.out.1 q; omega) H.out.2)
      clear H HS HC HF
      go_wp2_with fail
      go_loopg [17] b (fun g1 vk wr => ∃ k : Nat, vk = .int .i64 k ∧ j ≤ k ∧ k ≤ m ∧ k ≤ g1 ∧ Hid (Put w0 blk off d0.size (rot f k m (m + 1)) wr))
      case atStart => exact ⟨m, rfl, by omega, by omega, by omega, hid (by rw [rot_last]; exact S1.out)⟩
      case round =>
        clear S1
        obtain ⟨k, rfl, hak, hkj, hg1, S1⟩ := hrel
        by_cases hlt : j < k
        · have hltz : (j : Int) < (k : Int) := by omega
          obtain ⟨q, rfl⟩ : ∃ q, k = q + 1 := ⟨k - 1, by omega⟩
          obtain ⟨kN, hkN⟩ : ∃ z, z = q + 1 := ⟨_, rfl⟩
          have ek : ((q + 1 : Nat) : Int) = (q : Int) + 1 := by omega
          have ea : ((q : Int) + 1).toNat = kN := by omega
          have pa : (q : Int) + 1 < (d0.size : Int) := by omega
          have pb : (q : Int) < (d0.size : Int) := by omega
          have pc : (0 : Int) ≤ (q : Int) + 1 := by omega
          have ra : IntKind.i64.wrap ((q : Int) + 1) = (q : Int) + 1 := by rw [IntKind.wrap_i64]; omega
          have hltz' : (j : Int) < (q : Int) + 1 := by omega
          obtain ⟨⟨c1, c2⟩, ⟨f1, f2⟩, ⟨u, c3⟩, S3⟩ := S1.out.swap R kN q (by omega) (by omega)
          have S4 := hid S3
          clear S3
          generalize rot f (q + 1) m (m + 1) kN = x at c1 S4
          generalize rot f (q + 1) m (m + 1) q = y at c2 c3 S4
          have HK := hid hkN
          clear hkN
          go_wp2_with fail
          go_region
          clear c1 c2 c3 f1 f2 S1
          generalize ((wr.setCell ⟨blk, off + kN, none⟩ (enI y)).setCell ⟨blk, off + q, none⟩ (enI x)).drew = w3 at S4 ⊢
          go_wp2_with fail
          go_roundg q
          case measure => omega
          case rel => exact ⟨q, by first | rfl | go_num | (congr 1; omega), by omega, by omega, Nat.le_refl _, hid (by have z := S4.out; rw [HK.out, rot_down f m q hkj] at z; exact z)⟩
        · have hltz : ¬ (j : Int) < (k : Int) := by omega
          have e : j = k := by omega
          subst e
          go_wp2_with fail
          (try simp only [Exit.inBlock, Exit.then]); refine bodyPost_ret (results_none rfl _ _ _) rfl ?_
          rw [HM.out]
          exact ⟨rfl, _, S1.out, (Prm.rot (by omega) (by omega)).wide hmi (Nat.le_refl _), D.out⟩
end
end Go.Proofs.Ytogdfjkbkhnobaa
