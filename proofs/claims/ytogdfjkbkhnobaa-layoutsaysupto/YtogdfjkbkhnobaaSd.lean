/-
  Two parts of a row, each in order, become one in order: the general case.
-/
import Derived.Test.YtogdfjkbkhnobaaSc
import Derived.Deep.Cut
import Derived.Deep.CutRange
namespace Go.Proofs.Ytogdfjkbkhnobaa
open Go.Shelf Go.RowKit Go.Lib Go.Sort
set_option maxRecDepth 1000000

def SymOk (w0 : World) (blk off n : Nat) (key : Int → Int) (tie : Int → Int → Prop) (g : Nat) (cb : Array Value) (N cap : Nat) (a m b : Nat) : Prop :=
  ∀ (f : Nat → Int) (w : World), Put w0 blk off n f w → (∀ k, k < n → 0 ≤ f k ∧ f k < N) → a < m → m < b → b ≤ n → Srt key tie f a m → Srt key tie f m b → Crs tie f a m b →
    Calls Try.prog 31 #[.slice (some ⟨blk, off, none⟩) n cap, .int .i64 a, .int .i64 m, .int .i64 b, .func (.func g) #[] cb] w fun e w' => e = .returned (.tuple #[]) ∧ ∃ f', Put w0 blk off n f' w' ∧ Prm f f' a b ∧ Srt key tie f' a b
theorem rng_of {f f' : Nat → Int} {n N a b : Nat} (p : Prm f f' a b) (hb : b ≤ n) (h : ∀ k, k < n → 0 ≤ f k ∧ f k < N) : ∀ k, k < n → 0 ≤ f' k ∧ f' k < N := fun k hk =>
  (p.wide (Nat.zero_le _) hb).all (P := fun z => 0 ≤ z ∧ z < N) (fun q _ q2 => h q q2) k (Nat.zero_le _) hk

section
variable {w0 : World} {blk off : Nat} {d0 : Array Int} {key : Int → Int} {tie : Int → Int → Prop} {g : Nat} {cb : Array Value} {cf : Int → Int → Int} {N : Nat}

set_option maxHeartbeats 32000000 in
theorem sym_mid (R : Row1 enI w0 blk off d0) (hsz : d0.size < 1000000) (ht : TieOk tie) (eg : ∀ args w, (callFunc g args).run Try.prog w = .ok (.enter g args) w) (hC : CmpOk g cb cf N w0 blk off d0.size) (hcf : ∀ x y, cf x y < 0 ↔ key x < key y)
    (cap a m b : Nat) (ih : ∀ a' m' b', b' - a' < b - a → SymOk w0 blk off d0.size key tie g cb N cap a' m' b') (f : Nat → Int) (w : World) (S : Put w0 blk off d0.size f w) (hr : ∀ k, k < d0.size → 0 ≤ f k ∧ f k < N) (h1 : a + 1 < m) (h2 : m + 1 < b) (h3 : b ≤ d0.size) (hs1 : Srt key tie f a m) (hs2 : Srt key tie f m b) (hc : Crs tie f a m b) :
    Calls Try.prog 31 #[.slice (some ⟨blk, off, none⟩) d0.size cap, .int .i64 a, .int .i64 m, .int .i64 b, .func (.func g) #[] cb] w fun e w' => e = .returned (.tuple #[]) ∧ ∃ f', Put w0 blk off d0.size f' w' ∧ Prm f f' a b ∧ Srt key tie f' a b := by
  have S0 := hid S
  have HC := hid hC
  have HR := hid hr
  have HT := hid ht
  have HS := hid (And.intro hs1 (And.intro hs2 hc))
  have HF := hid hcf
  have IH := hid ih
  clear S hC hr ht hs1 hs2 hc hcf ih
  have mx := mixed
  have e0 : ¬ (m : Int) - a = 1 := by omega
  have e0b : ((m : Int) - a == 1) = false := by simpa using e0
  have e1 : ¬ (b : Int) - m = 1 := by omega
  have e1b : ((b : Int) - m == 1) = false := by simpa using e1
  obtain ⟨mid, hmid⟩ : ∃ q, q = (a + b) / 2 := ⟨_, rfl⟩
  have emid : ((a : Int) + b) / 2 = (mid : Int) := by omega
  have q1 : a < mid := by omega
  have q2 : mid < b := by omega
  have q3 : 2 * mid ≤ a + b ∧ a + b ≤ 2 * mid + 1 := by omega
  clear hmid
  obtain ⟨n, hn1, hn2⟩ : ∃ q, q ≤ mid + m ∧ mid + m ≤ q := ⟨_, Nat.le_refl _, Nat.le_refl _⟩
  obtain ⟨p, hp1, hp2⟩ : ∃ q, q + 1 ≤ n ∧ n ≤ q + 1 := ⟨n - 1, by omega, by omega⟩
  obtain ⟨s0, r0, hb⟩ : ∃ s0 r0, (mid < m ∧ s0 = n - b ∧ r0 = mid) ∨ (m ≤ mid ∧ s0 = a ∧ r0 = m) := by
    by_cases h : mid < m
    · exact ⟨_, _, .inl ⟨h, rfl, rfl⟩⟩
    · exact ⟨_, _, .inr ⟨by omega, rfl, rfl⟩⟩
  have z1 : a ≤ s0 := by omega
  have z2 : s0 ≤ r0 := by omega
  have z3 : r0 ≤ m := by omega
  have z4 : m + r0 ≤ n := by omega
  have z5 : n ≤ b + s0 := by omega
  have z6 : s0 = a ∨ n = b + s0 := by omega
  have z7 : r0 = m ∨ n = r0 + m := by omega
  rcases hb with ⟨hb, hb1, hb2⟩ | ⟨hb, hb1, hb2⟩
  · have hb2s := hb2.symm
    clear hb2
    subst hb2s
    have hbz : (mid : Int) < (m : Int) := by omega
    go_enter Try.func31, Try.ntmps31
    go_wp2_with fail
    have en1 : (mid : Int) + m = (n : Int) := by omega
    have ep : (n : Int) - 1 = (p : Int) := by omega
    rw [en1, ep]
    have es : (n : Int) - b = (s0 : Int) := by omega
    rw [es]
    clear es hb1
    clear en1 ep
    go_loopg [20, 21] b (fun g1 vi vj wr => ∃ (i j : Nat), vi = .int .i64 i ∧ vj = .int .i64 j ∧ s0 ≤ i ∧ i ≤ j ∧ j ≤ mid ∧ j - i ≤ g1 ∧ Hid (Put w0 blk off d0.size f wr) ∧ Hid ((s0 < i → ¬ key (f (n - i)) < key (f (i - 1))) ∧ (j < mid → key (f (p - j)) < key (f j))))
    case atStart => exact ⟨s0, mid, rfl, rfl, by omega, by omega, by omega, by omega, S0, hid ⟨fun h => by omega, fun h => by omega⟩⟩
    case round =>
      clear S0
      obtain ⟨i, j, rfl, rfl, hmi, hij, hjb, hg1, S1, H⟩ := hrel
      by_cases hlt : i < j
      · have hltz : (i : Int) < (j : Int) := by omega
        obtain ⟨h, hh⟩ : ∃ h, h = (i + j) / 2 := ⟨_, rfl⟩
        have he : ((i : Int) + (j : Int)) / 2 = (h : Int) := by omega
        have hh1 : i ≤ h := by omega
        have hh2 : h < j := by omega
        clear hh
        obtain ⟨pc, hpc⟩ : ∃ q, q = p - h := ⟨_, rfl⟩
        have ea : ((p : Int) - (h : Int)).toNat = pc := by omega
        have ea2 : p - h = pc := by omega
        have pa2 : (h : Int) ≤ (p : Int) := by omega
        have pa3 : h ≤ p := by omega
        have pa : (0 : Int) ≤ (p : Int) - (h : Int) := by omega
        have ba : (p : Int) - (h : Int) < (d0.size : Int) := by omega
        have ra : IntKind.i64.wrap ((p : Int) - (h : Int)) = (p : Int) - (h : Int) := by rw [IntKind.wrap_i64]; omega
        obtain ⟨x, hx⟩ : ∃ x, x = f pc := ⟨_, rfl⟩
        obtain ⟨y, hy⟩ : ∃ y, y = f h := ⟨_, rfl⟩
        have c1 := S1.out.cl R pc (by omega)
        have c2 := S1.out.cl R h (by omega)
        have hcm := S1.out.cmp HC.out (HR.out pc (by omega)).1 (HR.out pc (by omega)).2 (HR.out h (by omega)).1 (HR.out h (by omega)).2
        rw [← hx] at c1 hcm
        rw [← hy] at c2 hcm
        have p1 : (h : Int) < d0.size := by omega
        have p2 : (pc : Int) < d0.size := by omega
        have HX := hid (And.intro hx (And.intro hy hpc))
        clear hx hy hpc
        by_cases hv : cf x y < 0
        · have hd : decide (cf x y < 0) = true := decide_eq_true hv
          have HV := hid hv
          go_wp2_with fail
          go_quiet_grown (first | (go_at_fn g; refine Calls.grown_of (hcm _ _)))
          have S2 := hid (S1.out.grown nq osq)
          clear c1 c2 hcm S1
          generalize grow (wr.drewN nq) osq = w2 at S2 ⊢
          go_wp2_with fail
          go_roundg (h - i)
          case measure => omega
          case rel =>
            have q := (HF.out x y).1 HV.out
            rw [HX.out.1, HX.out.2.1, HX.out.2.2] at q
            exact ⟨i, h, rfl, rfl, hmi, by omega, by omega, Nat.le_refl _, S2, hid ⟨H.out.1, fun _ => q⟩⟩
        · have hd : decide (cf x y < 0) = false := decide_eq_false hv
          have HV := hid hv
          go_wp2_with fail
          go_quiet_grown (first | (go_at_fn g; refine Calls.grown_of (hcm _ _)))
          have S2 := hid (S1.out.grown nq osq)
          clear c1 c2 hcm S1
          generalize grow (wr.drewN nq) osq = w2 at S2 ⊢
          go_wp2_with fail
          go_roundg (j - (h + 1))
          case measure => omega
          case rel =>
            have q : ¬ key (f (p - h)) < key (f h) := fun q => by
              have v := HV.out
              rw [HX.out.1, HX.out.2.1, HX.out.2.2] at v
              exact absurd ((HF.out _ _).2 q) (by omega)
            have e1 : n - (h + 1) = p - h := by omega
            exact ⟨h + 1, j, by go_num, rfl, by omega, by omega, by omega, Nat.le_refl _, S2, hid ⟨fun _ => by rw [Nat.add_sub_cancel, e1]; omega, H.out.2⟩⟩
      · have hltz : ¬ (i : Int) < (j : Int) := by omega
        have e : j = i := by omega
        subst e
        obtain ⟨en, hen1, hen2⟩ : ∃ q, q ≤ n - j ∧ n - j ≤ q := ⟨_, Nat.le_refl _, Nat.le_refl _⟩
        have y1 : m ≤ en := by omega
        have y2 : en ≤ b := by omega
        have y3 : j ≤ m := by omega
        have y4 : j ≤ mid := by omega
        have y5 : mid ≤ en := by omega
        have y6 : mid + m = j + en := by omega
        have D := hid (halved HT.out HS.out.1 HS.out.2.1 HS.out.2.2 (by omega) y3 y1 y2 y6 (fun g1 g2 => by
          have q := H.out.1 (by omega)
          have e : n - j = en := by omega
          rw [e] at q
          omega) (fun g1 g2 => by
          have q := H.out.2 (by omega)
          have e : p - j = en - 1 := by omega
          rw [e] at q
          exact q))
        clear H HS HC HF
        go_upto_region 39 with fail
        have een : (n : Int) - j = (en : Int) := by omega
        rw [een]
        clear een
        have P0 : Prm f (rot f j m en) a b := (Prm.rot y3 y1).wide (by omega) y2
        go_upto_region 39 with fail
        go_cut [185] from 178 to 185 (fun v wx => ∃ c : Bool, v = .bool c ∧ Hid (c = true ↔ (j < m ∧ m < en)) ∧ Hid (Put w0 blk off d0.size f wx))
        case first =>
          rcases Nat.lt_or_ge j m with ra | ra
          · have rz : (j : Int) < (m : Int) := by omega
            rcases Nat.lt_or_ge m en with rb | rb
            · have ry : (m : Int) < (en : Int) := by omega
              go_wp2_with fail
              go_meet
              exact ⟨true, rfl, hid (iff_of_true rfl ⟨ra, rb⟩), S1⟩
            · have ry : ¬ (m : Int) < (en : Int) := by omega
              go_wp2_with fail
              go_meet
              exact ⟨false, rfl, hid (iff_of_false (by simp) (by omega)), S1⟩
          · have rz : ¬ (j : Int) < (m : Int) := by omega
            go_wp2_with fail
            go_meet
            exact ⟨false, rfl, hid (iff_of_false (by simp) (by omega)), S1⟩
        case rest =>
          obtain ⟨cr, rfl, hcr, hKr⟩ := hcut
          clear S1
          go_upto_if 185 with fail
          go_cut [191] from 186 to 191 (fun _ wx => Hid (Put w0 blk off d0.size (rot f j m en) wx))
          case first =>
            cases cr with
            | true =>
              have q := hcr.out.1 rfl
              go_wp2_with fail
              go_at_call 32
              refine (rotate_says R cap j m en f _ _ hKr.out q.1 q.2 (by omega) hsz).mono ?_
              rintro e w5 ⟨rfl, h⟩
              have S2 := hid h
              clear h q
              go_wp2_with fail
              go_meet
              exact S2
            | false =>
              go_wp2_with fail
              go_meet
              have q0 : ¬ (j < m ∧ m < en) := fun h => by have := hcr.out.2 h; simp at this
              have q : j = m ∨ en = m := by omega
              refine hid ?_
              rcases q with q | q
              · rw [q, (rot_same f en m).2]; exact hKr.out
              · rw [q, (rot_same f j m).1]; exact hKr.out
          case rest =>
            have S2 := hcut
            clear hcut hKr hcr
            go_upto_region 41 with fail
            go_cut [199] from 192 to 199 (fun v wx => ∃ c : Bool, v = .bool c ∧ Hid (c = true ↔ (a < j ∧ j < mid)) ∧ Hid (Put w0 blk off d0.size (rot f j m en) wx))
            case first =>
              rcases Nat.lt_or_ge a j with la | la
              · have lz : (a : Int) < (j : Int) := by omega
                rcases Nat.lt_or_ge j mid with lb | lb
                · have ly : (j : Int) < (mid : Int) := by omega
                  go_wp2_with fail
                  go_meet
                  exact ⟨true, rfl, hid (iff_of_true rfl ⟨la, lb⟩), S2⟩
                · have ly : ¬ (j : Int) < (mid : Int) := by omega
                  go_wp2_with fail
                  go_meet
                  exact ⟨false, rfl, hid (iff_of_false (by simp) (by omega)), S2⟩
              · have lz : ¬ (a : Int) < (j : Int) := by omega
                go_wp2_with fail
                go_meet
                exact ⟨false, rfl, hid (iff_of_false (by simp) (by omega)), S2⟩
            case rest =>
              obtain ⟨cl, rfl, hcl, hKl⟩ := hcut
              clear S2
              go_upto_if 199 with fail
              go_cut [205] from 200 to 205 (fun _ wx => ∃ f6, Hid (Put w0 blk off d0.size f6 wx) ∧ Hid (Prm (rot f j m en) f6 a mid ∧ Srt key tie f6 a mid))
              case first =>
                cases cl with
                | true =>
                  have q := hcl.out.1 rfl
                  go_wp2_with fail
                  go_at_call 31
                  refine (IH.out a j mid (by omega) _ _ hKl.out (rng_of P0 h3 HR.out) q.1 q.2 (by omega) D.out.s1 D.out.s2 D.out.c1).mono ?_
                  rintro e w6 ⟨rfl, f6, h6, p6, s6⟩
                  have S3 := hid h6
                  have P3 := hid (And.intro p6 s6)
                  clear h6 p6 s6 q
                  go_wp2_with fail
                  go_meet
                  exact ⟨f6, S3, P3⟩
                | false =>
                  go_wp2_with fail
                  go_meet
                  have q0 : ¬ (a < j ∧ j < mid) := fun h => by have := hcl.out.2 h; simp at this
                  refine ⟨_, hKl, hid ⟨Prm.refl _ _ _, ?_⟩⟩
                  have q : j = a ∨ j = mid := by omega
                  rcases q with q | q
                  · have z := D.out.s2; rw [q] at z ⊢; exact z
                  · have z := D.out.s1; rw [q] at z ⊢; exact z
              case rest =>
                obtain ⟨f6, S3, P3⟩ := hcut
                clear hKl hcl
                have D2 := hid (D.out.right P3.out.1 y5)
                have P6 := hid (show Prm f f6 a b from P0.trans (P3.out.1.wide (Nat.le_refl _) (by omega)))
                go_upto_region 43 with fail
                go_cut [213] from 206 to 213 (fun v wx => ∃ c : Bool, v = .bool c ∧ Hid (c = true ↔ (mid < en ∧ en < b)) ∧ Hid (Put w0 blk off d0.size f6 wx))
                case first =>
                  rcases Nat.lt_or_ge mid en with ka | ka
                  · have kz : (mid : Int) < (en : Int) := by omega
                    rcases Nat.lt_or_ge en b with kb | kb
                    · have ky : (en : Int) < (b : Int) := by omega
                      go_wp2_with fail
                      go_meet
                      exact ⟨true, rfl, hid (iff_of_true rfl ⟨ka, kb⟩), S3⟩
                    · have ky : ¬ (en : Int) < (b : Int) := by omega
                      go_wp2_with fail
                      go_meet
                      exact ⟨false, rfl, hid (iff_of_false (by simp) (by omega)), S3⟩
                  · have kz : ¬ (mid : Int) < (en : Int) := by omega
                    go_wp2_with fail
                    go_meet
                    exact ⟨false, rfl, hid (iff_of_false (by simp) (by omega)), S3⟩
                case rest =>
                  obtain ⟨ck, rfl, hck, hKk⟩ := hcut
                  clear S3
                  cases ck with
                  | true =>
                    have q := hck.out.1 rfl
                    go_wp2_with fail
                    go_at_call 31
                    refine (IH.out mid en b (by omega) _ _ hKk.out (rng_of P6.out h3 HR.out) q.1 q.2 h3 D2.out.1 D2.out.2.1 D2.out.2.2).mono ?_
                    rintro e w7 ⟨rfl, f7, h7, p7, s7⟩
                    have H7 := hid (And.intro h7 (And.intro p7 s7))
                    clear h7 p7 s7 q
                    go_wp2_with fail
                    go_end0
                    exact ⟨rfl, f7, H7.out.1, P6.out.trans (H7.out.2.1.wide (by omega) (Nat.le_refl _)), D.out.done P3.out.1 P3.out.2 H7.out.2.1 H7.out.2.2⟩
                  | false =>
                    go_wp2_with fail
                    go_end0
                    have q0 : ¬ (mid < en ∧ en < b) := fun h => by have := hck.out.2 h; simp at this
                    refine ⟨rfl, f6, hKk.out, P6.out, D.out.done P3.out.1 P3.out.2 (Prm.refl _ _ _) ?_⟩
                    have q : en = mid ∨ en = b := by omega
                    rcases q with q | q
                    · have z := D2.out.2.1; rw [q] at z; exact z
                    · have z := D2.out.1; rw [q] at z; exact z
  · have hb1s := hb1.symm
    have hb2s := hb2.symm
    subst hb1s hb2s
    have hbz : ¬ (mid : Int) < (m : Int) := by omega
    go_enter Try.func31, Try.ntmps31
    go_wp2_with fail
    have en1 : (mid : Int) + m = (n : Int) := by omega
    have ep : (n : Int) - 1 = (p : Int) := by omega
    rw [en1, ep]
    clear en1 ep
    go_loopg [20, 21] b (fun g1 vi vj wr => ∃ (i j : Nat), vi = .int .i64 i ∧ vj = .int .i64 j ∧ a ≤ i ∧ i ≤ j ∧ j ≤ m ∧ j - i ≤ g1 ∧ Hid (Put w0 blk off d0.size f wr) ∧ Hid ((a < i → ¬ key (f (n - i)) < key (f (i - 1))) ∧ (j < m → key (f (p - j)) < key (f j))))
    case atStart => exact ⟨a, m, rfl, rfl, by omega, by omega, by omega, by omega, S0, hid ⟨fun h => by omega, fun h => by omega⟩⟩
    case round =>
      clear S0
      obtain ⟨i, j, rfl, rfl, hmi, hij, hjb, hg1, S1, H⟩ := hrel
      by_cases hlt : i < j
      · have hltz : (i : Int) < (j : Int) := by omega
        obtain ⟨h, hh⟩ : ∃ h, h = (i + j) / 2 := ⟨_, rfl⟩
        have he : ((i : Int) + (j : Int)) / 2 = (h : Int) := by omega
        have hh1 : i ≤ h := by omega
        have hh2 : h < j := by omega
        clear hh
        obtain ⟨pc, hpc⟩ : ∃ q, q = p - h := ⟨_, rfl⟩
        have ea : ((p : Int) - (h : Int)).toNat = pc := by omega
        have ea2 : p - h = pc := by omega
        have pa2 : (h : Int) ≤ (p : Int) := by omega
        have pa3 : h ≤ p := by omega
        have pa : (0 : Int) ≤ (p : Int) - (h : Int) := by omega
        have ba : (p : Int) - (h : Int) < (d0.size : Int) := by omega
        have ra : IntKind.i64.wrap ((p : Int) - (h : Int)) = (p : Int) - (h : Int) := by rw [IntKind.wrap_i64]; omega
        obtain ⟨x, hx⟩ : ∃ x, x = f pc := ⟨_, rfl⟩
        obtain ⟨y, hy⟩ : ∃ y, y = f h := ⟨_, rfl⟩
        have c1 := S1.out.cl R pc (by omega)
        have c2 := S1.out.cl R h (by omega)
        have hcm := S1.out.cmp HC.out (HR.out pc (by omega)).1 (HR.out pc (by omega)).2 (HR.out h (by omega)).1 (HR.out h (by omega)).2
        rw [← hx] at c1 hcm
        rw [← hy] at c2 hcm
        have p1 : (h : Int) < d0.size := by omega
        have p2 : (pc : Int) < d0.size := by omega
        have HX := hid (And.intro hx (And.intro hy hpc))
        clear hx hy hpc
        by_cases hv : cf x y < 0
        · have hd : decide (cf x y < 0) = true := decide_eq_true hv
          have HV := hid hv
          go_wp2_with fail
          go_quiet_grown (first | (go_at_fn g; refine Calls.grown_of (hcm _ _)))
          have S2 := hid (S1.out.grown nq osq)
          clear c1 c2 hcm S1
          generalize grow (wr.drewN nq) osq = w2 at S2 ⊢
          go_wp2_with fail
          go_roundg (h - i)
          case measure => omega
          case rel =>
            have q := (HF.out x y).1 HV.out
            rw [HX.out.1, HX.out.2.1, HX.out.2.2] at q
            exact ⟨i, h, rfl, rfl, hmi, by omega, by omega, Nat.le_refl _, S2, hid ⟨H.out.1, fun _ => q⟩⟩
        · have hd : decide (cf x y < 0) = false := decide_eq_false hv
          have HV := hid hv
          go_wp2_with fail
          go_quiet_grown (first | (go_at_fn g; refine Calls.grown_of (hcm _ _)))
          have S2 := hid (S1.out.grown nq osq)
          clear c1 c2 hcm S1
          generalize grow (wr.drewN nq) osq = w2 at S2 ⊢
          go_wp2_with fail
          go_roundg (j - (h + 1))
          case measure => omega
          case rel =>
            have q : ¬ key (f (p - h)) < key (f h) := fun q => by
              have v := HV.out
              rw [HX.out.1, HX.out.2.1, HX.out.2.2] at v
              exact absurd ((HF.out _ _).2 q) (by omega)
            have e1 : n - (h + 1) = p - h := by omega
            exact ⟨h + 1, j, by go_num, rfl, by omega, by omega, by omega, Nat.le_refl _, S2, hid ⟨fun _ => by rw [Nat.add_sub_cancel, e1]; omega, H.out.2⟩⟩
      · have hltz : ¬ (i : Int) < (j : Int) := by omega
        have e : j = i := by omega
        subst e
        obtain ⟨en, hen1, hen2⟩ : ∃ q, q ≤ n - j ∧ n - j ≤ q := ⟨_, Nat.le_refl _, Nat.le_refl _⟩
        have y1 : m ≤ en := by omega
        have y2 : en ≤ b := by omega
        have y3 : j ≤ m := by omega
        have y4 : j ≤ mid := by omega
        have y5 : mid ≤ en := by omega
        have y6 : mid + m = j + en := by omega
        have D := hid (halved HT.out HS.out.1 HS.out.2.1 HS.out.2.2 (by omega) y3 y1 y2 y6 (fun g1 g2 => by
          have q := H.out.1 (by omega)
          have e : n - j = en := by omega
          rw [e] at q
          omega) (fun g1 g2 => by
          have q := H.out.2 (by omega)
          have e : p - j = en - 1 := by omega
          rw [e] at q
          exact q))
        clear H HS HC HF
        go_upto_region 39 with fail
        have een : (n : Int) - j = (en : Int) := by omega
        rw [een]
        clear een
        have P0 : Prm f (rot f j m en) a b := (Prm.rot y3 y1).wide (by omega) y2
        go_upto_region 39 with fail
        go_cut [185] from 178 to 185 (fun v wx => ∃ c : Bool, v = .bool c ∧ Hid (c = true ↔ (j < m ∧ m < en)) ∧ Hid (Put w0 blk off d0.size f wx))
        case first =>
          rcases Nat.lt_or_ge j m with ra | ra
          · have rz : (j : Int) < (m : Int) := by omega
            rcases Nat.lt_or_ge m en with rb | rb
            · have ry : (m : Int) < (en : Int) := by omega
              go_wp2_with fail
              go_meet
              exact ⟨true, rfl, hid (iff_of_true rfl ⟨ra, rb⟩), S1⟩
            · have ry : ¬ (m : Int) < (en : Int) := by omega
              go_wp2_with fail
              go_meet
              exact ⟨false, rfl, hid (iff_of_false (by simp) (by omega)), S1⟩
          · have rz : ¬ (j : Int) < (m : Int) := by omega
            go_wp2_with fail
            go_meet
            exact ⟨false, rfl, hid (iff_of_false (by simp) (by omega)), S1⟩
        case rest =>
          obtain ⟨cr, rfl, hcr, hKr⟩ := hcut
          clear S1
          go_upto_if 185 with fail
          go_cut [191] from 186 to 191 (fun _ wx => Hid (Put w0 blk off d0.size (rot f j m en) wx))
          case first =>
            cases cr with
            | true =>
              have q := hcr.out.1 rfl
              go_wp2_with fail
              go_at_call 32
              refine (rotate_says R cap j m en f _ _ hKr.out q.1 q.2 (by omega) hsz).mono ?_
              rintro e w5 ⟨rfl, h⟩
              have S2 := hid h
              clear h q
              go_wp2_with fail
              go_meet
              exact S2
            | false =>
              go_wp2_with fail
              go_meet
              have q0 : ¬ (j < m ∧ m < en) := fun h => by have := hcr.out.2 h; simp at this
              have q : j = m ∨ en = m := by omega
              refine hid ?_
              rcases q with q | q
              · rw [q, (rot_same f en m).2]; exact hKr.out
              · rw [q, (rot_same f j m).1]; exact hKr.out
          case rest =>
            have S2 := hcut
            clear hcut hKr hcr
            go_upto_region 41 with fail
            go_cut [199] from 192 to 199 (fun v wx => ∃ c : Bool, v = .bool c ∧ Hid (c = true ↔ (a < j ∧ j < mid)) ∧ Hid (Put w0 blk off d0.size (rot f j m en) wx))
            case first =>
              rcases Nat.lt_or_ge a j with la | la
              · have lz : (a : Int) < (j : Int) := by omega
                rcases Nat.lt_or_ge j mid with lb | lb
                · have ly : (j : Int) < (mid : Int) := by omega
                  go_wp2_with fail
                  go_meet
                  exact ⟨true, rfl, hid (iff_of_true rfl ⟨la, lb⟩), S2⟩
                · have ly : ¬ (j : Int) < (mid : Int) := by omega
                  go_wp2_with fail
                  go_meet
                  exact ⟨false, rfl, hid (iff_of_false (by simp) (by omega)), S2⟩
              · have lz : ¬ (a : Int) < (j : Int) := by omega
                go_wp2_with fail
                go_meet
                exact ⟨false, rfl, hid (iff_of_false (by simp) (by omega)), S2⟩
            case rest =>
              obtain ⟨cl, rfl, hcl, hKl⟩ := hcut
              clear S2
              go_upto_if 199 with fail
              go_cut [205] from 200 to 205 (fun _ wx => ∃ f6, Hid (Put w0 blk off d0.size f6 wx) ∧ Hid (Prm (rot f j m en) f6 a mid ∧ Srt key tie f6 a mid))
              case first =>
                cases cl with
                | true =>
                  have q := hcl.out.1 rfl
                  go_wp2_with fail
                  go_at_call 31
                  refine (IH.out a j mid (by omega) _ _ hKl.out (rng_of P0 h3 HR.out) q.1 q.2 (by omega) D.out.s1 D.out.s2 D.out.c1).mono ?_
                  rintro e w6 ⟨rfl, f6, h6, p6, s6⟩
                  have S3 := hid h6
                  have P3 := hid (And.intro p6 s6)
                  clear h6 p6 s6 q
                  go_wp2_with fail
                  go_meet
                  exact ⟨f6, S3, P3⟩
                | false =>
                  go_wp2_with fail
                  go_meet
                  have q0 : ¬ (a < j ∧ j < mid) := fun h => by have := hcl.out.2 h; simp at this
                  refine ⟨_, hKl, hid ⟨Prm.refl _ _ _, ?_⟩⟩
                  have q : j = a ∨ j = mid := by omega
                  rcases q with q | q
                  · have z := D.out.s2; rw [q] at z ⊢; exact z
                  · have z := D.out.s1; rw [q] at z ⊢; exact z
              case rest =>
                obtain ⟨f6, S3, P3⟩ := hcut
                clear hKl hcl
                have D2 := hid (D.out.right P3.out.1 y5)
                have P6 := hid (show Prm f f6 a b from P0.trans (P3.out.1.wide (Nat.le_refl _) (by omega)))
                go_upto_region 43 with fail
                go_cut [213] from 206 to 213 (fun v wx => ∃ c : Bool, v = .bool c ∧ Hid (c = true ↔ (mid < en ∧ en < b)) ∧ Hid (Put w0 blk off d0.size f6 wx))
                case first =>
                  rcases Nat.lt_or_ge mid en with ka | ka
                  · have kz : (mid : Int) < (en : Int) := by omega
                    rcases Nat.lt_or_ge en b with kb | kb
                    · have ky : (en : Int) < (b : Int) := by omega
                      go_wp2_with fail
                      go_meet
                      exact ⟨true, rfl, hid (iff_of_true rfl ⟨ka, kb⟩), S3⟩
                    · have ky : ¬ (en : Int) < (b : Int) := by omega
                      go_wp2_with fail
                      go_meet
                      exact ⟨false, rfl, hid (iff_of_false (by simp) (by omega)), S3⟩
                  · have kz : ¬ (mid : Int) < (en : Int) := by omega
                    go_wp2_with fail
                    go_meet
                    exact ⟨false, rfl, hid (iff_of_false (by simp) (by omega)), S3⟩
                case rest =>
                  obtain ⟨ck, rfl, hck, hKk⟩ := hcut
                  clear S3
                  cases ck with
                  | true =>
                    have q := hck.out.1 rfl
                    go_wp2_with fail
                    go_at_call 31
                    refine (IH.out mid en b (by omega) _ _ hKk.out (rng_of P6.out h3 HR.out) q.1 q.2 h3 D2.out.1 D2.out.2.1 D2.out.2.2).mono ?_
                    rintro e w7 ⟨rfl, f7, h7, p7, s7⟩
                    have H7 := hid (And.intro h7 (And.intro p7 s7))
                    clear h7 p7 s7 q
                    go_wp2_with fail
                    go_end0
                    exact ⟨rfl, f7, H7.out.1, P6.out.trans (H7.out.2.1.wide (by omega) (Nat.le_refl _)), D.out.done P3.out.1 P3.out.2 H7.out.2.1 H7.out.2.2⟩
                  | false =>
                    go_wp2_with fail
                    go_end0
                    have q0 : ¬ (mid < en ∧ en < b) := fun h => by have := hck.out.2 h; simp at this
                    refine ⟨rfl, f6, hKk.out, P6.out, D.out.done P3.out.1 P3.out.2 (Prm.refl _ _ _) ?_⟩
                    have q : en = mid ∨ en = b := by omega
                    rcases q with q | q
                    · have z := D2.out.2.1; rw [q] at z; exact z
                    · have z := D2.out.1; rw [q] at z; exact z

theorem sym_says (R : Row1 enI w0 blk off d0) (hsz : d0.size < 1000000) (ht : TieOk tie) (eg : ∀ args w, (callFunc g args).run Try.prog w = .ok (.enter g args) w) (hC : CmpOk g cb cf N w0 blk off d0.size) (hcf : ∀ x y, cf x y < 0 ↔ key x < key y) (cap : Nat) :
    ∀ (z a m b : Nat), b - a < z → SymOk w0 blk off d0.size key tie g cb N cap a m b := by
  intro z
  induction z with
  | zero => intro a m b h; omega
  | succ z ih =>
    intro a m b hz f w S hr h1 h2 h3 hs1 hs2 hc
    by_cases e1 : m = a + 1
    · subst e1
      exact sym_left R hsz ht eg hC hcf cap a b f w S hr h2 h3 hs2 hc
    · by_cases e2 : b = m + 1
      · subst e2
        exact sym_right R hsz ht eg hC hcf cap a m f w S hr (by omega) h3 hs1 hc
      · exact sym_mid R hsz ht eg hC hcf cap a m b (fun a' m' b' hb => ih a' m' b' (by omega)) f w S hr (by omega) (by omega) h3 hs1 hs2 hc
end
end Go.Proofs.Ytogdfjkbkhnobaa
