/-
  A part of a row is put in order by insertion (slices.insertionSortCmpFunc).
-/
import Derived.Test.YtogdfjkbkhnobaaSc
namespace Go.Proofs.Ytogdfjkbkhnobaa
open Go.Shelf Go.RowKit Go.Lib Go.Sort
set_option maxRecDepth 1000000

theorem rot_at (g : Nat → Int) (q i : Nat) (_ : q + 1 ≤ i) : rot g (q + 1) i (i + 1) (q + 1) = g i ∧ rot g (q + 1) i (i + 1) q = g q := by
  constructor
  · simp only [rot, rotI]; rw [if_pos (by omega), Nat.sub_self, Nat.add_zero]
  · simp only [rot, rotI]; rw [if_neg (by omega), if_neg (by omega)]
section
variable {w0 : World} {blk off : Nat} {d0 : Array Int} {key : Int → Int} {tie : Int → Int → Prop} {g : Nat} {cb : Array Value} {cf : Int → Int → Int} {N : Nat}
/-- So far put in order. -/
structure InsAt (key : Int → Int) (tie : Int → Int → Prop) (f h : Nat → Int) (a i : Nat) : Prop where
  prm : Prm f h a i
  srt : Srt key tie h a i
  rest : ∀ k, i ≤ k → h k = f k
theorem InsAt.step (ht : TieOk tie) {f h : Nat → Int} {a i b j : Nat} (H : InsAt key tie f h a i) (hT : Told tie f a b) (hai : a < i) (hib : i < b) (haj : a ≤ j) (hji : j ≤ i) (hlo : a < j → ¬ key (h i) < key (h (j - 1))) (hhi : ∀ k, j ≤ k → k < i → key (h i) < key (h k)) : InsAt key tie f (rot h j i (i + 1)) a (i + 1) := by
  refine ⟨(H.prm.wide (Nat.le_refl _) (by omega)).trans ((Prm.rot hji (by omega)).wide haj (Nat.le_refl _)), one_right ht H.srt (fun x y h1 h2 h3 h4 => ?_) haj hji hlo hhi, fun k hk => ?_⟩
  · have e : y = i := by omega
    subst e
    rw [H.rest y (Nat.le_refl _)]
    exact H.prm.all (P := fun z => tie z (f y)) (fun k k1 k2 => hT k y k1 k2 hib) x h1 h2
  · simp only [rot, rotI]
    rw [if_neg (by omega), if_neg (by omega)]
    exact H.rest k (by omega)

set_option maxHeartbeats 16000000 in
theorem ins_says (R : Row1 enI w0 blk off d0) (hsz : d0.size < 1000000) (ht : TieOk tie) (eg : ∀ args w, (callFunc g args).run Try.prog w = .ok (.enter g args) w) (hC : CmpOk g cb cf N w0 blk off d0.size) (hcf : ∀ x y, cf x y < 0 ↔ key x < key y)
    (cap a b : Nat) (f : Nat → Int) (w : World) (S : Put w0 blk off d0.size f w) (hr : ∀ k, k < d0.size → 0 ≤ f k ∧ f k < N) (hab : a ≤ b) (hb : b ≤ d0.size) (hT : Told tie f a b) :
    Calls Try.prog 30 #[.slice (some ⟨blk, off, none⟩) d0.size cap, .int .i64 a, .int .i64 b, .func (.func g) #[] cb] w fun e w' => e = .returned (.tuple #[]) ∧ ∃ f', Put w0 blk off d0.size f' w' ∧ Prm f f' a b ∧ Srt key tie f' a b := by
  have S0 := hid S
  have HC := hid hC
  have HR := hid hr
  have HT := hid ht
  have HTo := hid hT
  have HF := hid hcf
  clear S hC hr ht hT hcf
  have mx := mixed
  go_enter Try.func30, Try.ntmps30
  go_wp2_with fail
  go_loopg [8] (b - a) (fun g1 vi wr => ∃ (i : Nat) (h : Nat → Int), vi = .int .i64 i ∧ a < i ∧ (i ≤ b ∨ a = b) ∧ b + 1 - i ≤ g1 + 1 ∧ Hid (Put w0 blk off d0.size h wr) ∧ Hid (if a = b then h = f else InsAt key tie f h a i))
  case atStart => exact ⟨a + 1, f, by go_num, by omega, by omega, by omega, S0, hid (by
    split
    · rfl
    · exact ⟨Prm.refl _ _ _, fun i j h1 h2 h3 => by omega, fun _ _ => rfl⟩)⟩
  case round =>
    clear S0
    obtain ⟨i, h, rfl, hai, hib, hg1, S1, H⟩ := hrel
    by_cases hlt : i < b
    · have hltz : (i : Int) < (b : Int) := by omega
      have H1 := hid (show InsAt key tie f h a i from by have := H.out; rw [if_neg (by omega)] at this; exact this)
      clear H
      have HRh := hid (fun k (hk : k < d0.size) => (H1.out.prm.wide (Nat.zero_le _) (show i ≤ d0.size by omega)).all (P := fun z => 0 ≤ z ∧ z < N) (fun q _ q2 => HR.out q q2) k (Nat.zero_le _) hk)
      go_wp2_with fail
      go_loopg [9] i (fun g2 vj wr2 => ∃ (j : Nat), vj = .int .i64 j ∧ a ≤ j ∧ j ≤ i ∧ j ≤ g2 ∧ Hid (Put w0 blk off d0.size (rot h j i (i + 1)) wr2) ∧ Hid (∀ k, j ≤ k → k < i → key (h i) < key (h k)))
      case atStart => exact ⟨i, rfl, by omega, Nat.le_refl _, Nat.le_refl _, hid (by rw [rot_last]; exact S1.out), hid (fun k h1 h2 => by omega)⟩
      case round =>
        clear S1
        obtain ⟨j, rfl, haj, hji, hg2, S1, HH⟩ := hrel
        by_cases hja : a < j
        · obtain ⟨q, rfl⟩ : ∃ q, j = q + 1 := ⟨j - 1, by omega⟩
          have ek : ((q + 1 : Nat) : Int) = (q : Int) + 1 := by omega
          obtain ⟨kN, hkN⟩ : ∃ z, z = q + 1 := ⟨_, rfl⟩
          have hjad : decide ((q : Int) + 1 > (a : Int)) = true := decide_eq_true (by omega)
          have hjaz' : (a : Int) < (q : Int) + 1 := by omega
          have ea : ((q : Int) + 1).toNat = kN := by omega
          have pa : (q : Int) + 1 < (d0.size : Int) := by omega
          have pb : (q : Int) < (d0.size : Int) := by omega
          have pc : (0 : Int) ≤ (q : Int) + 1 := by omega
          have ra : IntKind.i64.wrap ((q : Int) + 1) = (q : Int) + 1 := by rw [IntKind.wrap_i64]; omega
          have rb : IntKind.i64.wrap (q : Int) = (q : Int) := by rw [IntKind.wrap_i64]; omega
          obtain ⟨x, hx⟩ : ∃ x, x = h i := ⟨_, rfl⟩
          obtain ⟨y, hy⟩ : ∃ y, y = h q := ⟨_, rfl⟩
          have c1 := S1.out.cl R kN (by omega)
          have c2 := S1.out.cl R q (by omega)
          rw [hkN, (rot_at h q i hji).1, ← hx, ← hkN] at c1
          rw [(rot_at h q i hji).2, ← hy] at c2
          have hcm := S1.out.cmp HC.out (HRh.out i (by omega)).1 (HRh.out i (by omega)).2 (HRh.out q (by omega)).1 (HRh.out q (by omega)).2
          rw [← hx, ← hy] at hcm
          have HX := hid (And.intro hx (And.intro hy hkN))
          clear hx hy hkN
          by_cases hv : cf x y < 0
          · have hd : decide (cf x y < 0) = true := decide_eq_true hv
            have HV := hid hv
            go_wp2_with fail
            go_quiet_grown (first | (go_at_fn g; refine Calls.grown_of (hcm _ _)))
            have S2 := hid (S1.out.grown nq osq)
            clear c1 c2 hcm S1
            generalize grow (wr.drewN nq) osq = w2 at S2 ⊢
            obtain ⟨⟨c1, c2⟩, ⟨f1, f2⟩, ⟨u, c3⟩, S3⟩ := S2.out.swap R kN q (by have := HX.out.2.2; omega) (by omega)
            have S4 := hid S3
            clear S3
            generalize rot h (q + 1) i (i + 1) kN = x2 at c1 S4
            generalize rot h (q + 1) i (i + 1) q = y2 at c2 c3 S4
            go_wp2_with fail
            go_region
            clear c1 c2 c3 f1 f2 S2
            generalize ((w2.setCell ⟨blk, off + kN, none⟩ (enI y2)).setCell ⟨blk, off + q, none⟩ (enI x2)).drew = w3 at S4 ⊢
            go_wp2_with fail
            go_roundg q
            case measure => omega
            case rel =>
              refine ⟨q, by first | rfl | go_num | (congr 1; omega), by omega, by omega, Nat.le_refl _, hid (by have z := S4.out; rw [HX.out.2.2, rot_down h i q hji] at z; exact z), hid (fun k h1 h2 => ?_)⟩
              by_cases e : k = q
              · have z := (HF.out x y).1 HV.out
                rw [HX.out.1, HX.out.2.1] at z
                rw [e]; exact z
              · exact HH.out k (by omega) h2
          · have hd : decide (cf x y < 0) = false := decide_eq_false hv
            have HV := hid hv
            go_wp2_with fail
            go_quiet_grown (first | (go_at_fn g; refine Calls.grown_of (hcm _ _)))
            have S2 := hid (S1.out.grown nq osq)
            clear c1 c2 hcm S1
            generalize grow (wr.drewN nq) osq = w2 at S2 ⊢
            go_wp2_with fail
            go_roundg (b - (i + 1))
            case measure => omega
            case rel =>
              have z : ¬ key (h i) < key (h q) := fun z => by
                have v := HV.out
                rw [HX.out.1, HX.out.2.1] at v
                exact absurd ((HF.out _ _).2 z) (by omega)
              exact ⟨i + 1, _, by go_num, by omega, by omega, by omega, S2, hid (by
                rw [if_neg (by omega)]
                exact H1.out.step HT.out HTo.out hai hlt haj hji (fun _ => by rw [Nat.add_sub_cancel]; exact z) HH.out)⟩
        · have hjad : decide ((j : Int) > (a : Int)) = false := decide_eq_false (by omega)
          have hjaz' : ¬ (a : Int) < (j : Int) := by omega
          go_wp2_with fail
          go_region
          have S2 := hid (S1.out.grown 1 #[])
          rw [grow_empty] at S2
          have e1 : wr.drewN 1 = wr.drew := rfl
          rw [e1] at S2
          clear e1 S1
          generalize wr.drew = w2 at S2 ⊢
          go_wp2_with fail
          go_roundg (b - (i + 1))
          case measure => omega
          case rel => exact ⟨i + 1, _, by go_num, by omega, by omega, by omega, S2, hid (by
                rw [if_neg (by omega)]
                exact H1.out.step HT.out HTo.out hai hlt haj hji (fun z => by omega) HH.out)⟩
    · have hltz : ¬ (i : Int) < (b : Int) := by omega
      go_wp2_with fail
      go_end0
      refine ⟨rfl, h, S1.out, ?_⟩
      by_cases e : a = b
      · have z := H.out
        rw [if_pos e] at z
        subst z
        exact ⟨Prm.refl _ _ _, fun x y h1 h2 h3 => by omega⟩
      · have z := H.out
        rw [if_neg e] at z
        have e2 : i = b := by omega
        subst e2
        exact ⟨z.prm, z.srt⟩
end
end Go.Proofs.Ytogdfjkbkhnobaa
