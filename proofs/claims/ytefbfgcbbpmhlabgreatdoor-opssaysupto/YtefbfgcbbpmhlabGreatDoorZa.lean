/-
  Joined: Oi, Qu, Za.
-/
import Derived.Test.YtefbfgcbbpmhlabGreatDoorOh
import Derived.Test.YtefbfgcbbpmhlabGreatDoorVs
import Derived.Test.YtefbfgcbbpmhlabGreatDoorRg
import Derived.Test.YtefbfgcbbpmhlabGreatDoorVg

/-
  ops.Parse, whole.
-/
namespace Go.Proofs.YtefbfgcbbpmhlabGreatDoor
open Go.RowKit
set_option maxRecDepth 100000

theorem stepS (m : Int) (P B : Nat) (s : ByteArray) (j : Nat) (tO tA : Value) (O : List OC) (A : List VC) (w : World) (hG : Gr m w) (hP : P < B) (hR : RdO w P s j tO tA) (hM : OpsM B w tO tA O A) (hj : j < s.size) (hs : s.size ≤ 20000) (hO : O.length ≤ 2000) (hA : A.length ≤ 8) :
    Calls Tryz.prog 77 #[.pointer (some ⟨P, 0, none⟩)] w (StepSaid P B s w (stepR s j (O.map (·.1)) (A.map (·.1)))) := by
  cases hop : opMay (wordP s j)
  · exact stepVal m P B s j tO tA O A w hG hP hR hM hj hs hA hop
  · exact stepOp P B s j tO tA O A w hP hR hM hj hs hO hA hop
theorem stepR_few {s : ByteArray} {p : Nat} {O : List OpP} {A : List V} (h : (stepR s p O A).1 = 0) (hO : O.length ≤ 2000) (hA : A.length ≤ 8) : (stepR s p O A).2.2.1.length ≤ 2000 ∧ (stepR s p O A).2.2.2.length ≤ 8 := by
  unfold stepR at h ⊢
  by_cases h1 : opMay (wordP s p) = true
  · rw [if_pos h1] at h ⊢
    by_cases h2 : O.length = 2000
    · rw [if_pos h2] at h; exact absurd (show (2 : Int) = 0 from h) (by decide)
    · rw [if_neg h2]; exact ⟨by simp; omega, by simp⟩
  · rw [if_neg h1] at h ⊢
    by_cases h2 : (pV s p).2.1 ≠ 0
    · rw [if_pos h2] at h; exact absurd h h2
    · rw [if_neg h2] at h ⊢
      by_cases h3 : A.length = 8
      · rw [if_pos h3] at h; exact absurd (show (10 : Int) = 0 from h) (by decide)
      · rw [if_neg h3]; exact ⟨hO, by simp; omega⟩
/-- What reading says. -/
def ParseSaid (w : World) (r : List OpP × Int) (e : Ending) (w' : World) : Prop :=
  ∃ t, e = .returned (.tuple #[t, errN r.2]) ∧ Below w.heap.size w w' ∧ Hid (OpsN 10 w' t r.1)
theorem opsN_nil (d : Nat) (w : World) : OpsN d w (.slice none 0 0) [] := ⟨none, 0, rfl, by simp [maxLen], fun i o h => by simp at h⟩
/-- How far the reader in a block has come. -/
def atOf (b : Nat) (w : World) : Nat := match w.cell? ⟨b, 1, none⟩ with | some (.int _ n) => n.toNat | _ => 0
theorem At.atOf {w : World} {P : Nat} {s : ByteArray} {j : Nat} {tO tA : Value} (h : RdO w P s j tO tA) : atOf P w = j := by
  have h1 : w.cell? ⟨P, 1, none⟩ = some (.int .i64 (j : Int)) := At.cell h 1
  unfold Go.Proofs.YtefbfgcbbpmhlabGreatDoor.atOf; rw [h1]; simp
/-- What holds at the loop's beginning. -/
def OpsL (s : ByteArray) (w : World) (R : List OpP × Int) (wr : World) : Prop :=
  ∃ (j : Nat) (tO tA : Value) (O : List OC) (A : List VC) (n : Nat), j ≤ s.size ∧ s.size - j < n ∧ O.length ≤ 2000 ∧ A.length ≤ 8 ∧ RdO wr w.heap.size s j tO tA ∧ OpsM (w.heap.size + 1) wr tO tA O A ∧ Below w.heap.size w wr ∧ Hid (opsR s n j (O.map (·.1)) (A.map (·.1)) = R)
set_option maxHeartbeats 4000000 in
theorem parseS (m : Int) (s : ByteArray) (w : World) (hG : Gr m w) (hs : s.size ≤ 20000) : Calls Tryz.prog 31 #[.string s] w (ParseSaid w (opsP s)) := by
  obtain ⟨R, hR⟩ : ∃ R, opsR s (s.size + 1) 0 [] [] = R := ⟨_, rfl⟩
  rw [show opsP s = R by unfold opsP; rw [if_neg (by omega), hR]]
  have HR0 := hid hR
  have hs' : ¬ (20000 : Int) < s.size := by omega
  clear hR
  go_enter Tryz.func31, Tryz.ntmps31
  go_wp2
  go_loopw [] (fun wr => OpsL s w R wr) (fun wr => s.size - (atOf w.heap.size wr))
  case atStart =>
    refine ⟨0, .slice none 0 0, .slice none 0 0, [], [], s.size + 1, by omega, by omega, by simp, by simp, At.new _ _ _ rfl, OpsM.nil _ _ (by simp), below_box _ _, hid HR0.out⟩
  case round =>
    clear HR0
    obtain ⟨j, tO, tA, O, A, n, hj, hn, hO, hA, hRd, hM, hb, HT⟩ := hrel
    obtain ⟨n', rfl⟩ : ∃ n', n = n' + 1 := ⟨n - 1, by omega⟩
    have hat0 : atOf w.heap.size wr = j := hRd.atOf
    have hmore := moreS w.heap.size (w.heap.size + 1) s j tO tA O A wr (by omega) hRd hM hj hs
    have HU := HT.out
    rw [opsR] at HU
    have hql := skipP_le hj
    generalize skipP s j = q at hmore HU hql
    by_cases hq : q = s.size
    · rw [if_pos hq, List.length_map] at HU
      rw [decide_eq_false (by omega)] at hmore
      replace HU := hid HU
      obtain ⟨aA, cA, eA⟩ := own_sliceO hM.ownA
      subst eA
      by_cases hA0 : A.length = 0
      · have HE := hid (show (O.map (·.1), (0 : Int)) = R by rw [← HU.out, if_pos hA0])
        rw [hA0] at hmore
        go_wp2_with (go_at_call 76; go_must (refine hmore.mono ?_); rintro e w1 ⟨rfl, hb1, hR1, hM1⟩; (have d2 := At.cell hR1 2); (have d3 := At.cell hR1 3); (have z1 := At.lt hR1); simp at d2 d3)
        go_ret2
        refine ⟨tO, ?_, hb.trans hb1, ?_⟩
        · rw [← HE.out]; simp only; rw [errN_0]; rfl
        · rw [← HE.out]; exact hid (hM1.list (by omega))
      · have HE := hid (show ([], (5 : Int)) = R by rw [← HU.out, if_neg hA0])
        have hA1 : (0 : Int) < A.length := by omega
        go_wp2_with (go_at_call 76; go_must (refine hmore.mono ?_); rintro e w1 ⟨rfl, hb1, hR1, hM1⟩; (have d2 := At.cell hR1 2); (have d3 := At.cell hR1 3); (have z1 := At.lt hR1); simp at d2 d3)
        go_ret2
        refine ⟨.slice none 0 0, ?_, hb.trans hb1, ?_⟩
        · rw [← HE.out]; rfl
        · rw [← HE.out]; exact hid (opsN_nil _ _)
    · rw [if_neg hq] at HU
      rw [decide_eq_true (by omega)] at hmore
      have hql' : q < s.size := by omega
      have hfar := stepR_far (s := s) (p := q) (O := O.map (·.1)) (A := A.map (·.1)) (by omega)
      have hfew := stepR_few (s := s) (p := q) (O := O.map (·.1)) (A := A.map (·.1))
      rw [List.length_map, List.length_map] at hfew
      have hstep := fun (w1 : World) (h1 : Gr m w1) (h2 : RdO w1 w.heap.size s q tO tA) (h3 : OpsM (w.heap.size + 1) w1 tO tA O A) => stepS m w.heap.size (w.heap.size + 1) s q tO tA O A w1 h1 (by omega) h2 h3 hql' hs hO hA
      generalize stepR s q (O.map (·.1)) (A.map (·.1)) = r at hstep HU hfar hfew
      obtain ⟨e1, z, O2, A2⟩ := r
      unfold StepSaid at hstep
      simp only at hstep HU hfar hfew
      replace HU := hid HU
      replace hfar := hid hfar
      replace hfew := hid hfew
      have HEC := hid (errN_case e1)
      have hG1 := hid (fun (w1 : World) (h1 : Below w.heap.size wr w1) => hG.below (hb.trans h1))
      clear hM
      rcases HEC.out with ⟨he, hev⟩ | ⟨he, hev⟩
      · rw [hev] at hstep
        have HE := hid (show opsR s n' z O2 A2 = R by rw [← HU.out, if_neg (by simp [he])])
        have hf := hfar.out he
        have hw := hfew.out he hO hA
        clear HU
        go_wp2_with (first | (go_at_call 76; go_must (refine hmore.mono ?_); rintro e w1 ⟨rfl, hb1, hR1, hM1⟩; (have z1 := At.lt hR1)) | (go_at_call 77; go_must (refine (hstep _ (hG1.out _ hb1) hR1 hM1).mono ?_); rintro e w2 ⟨rfl, hb2, HQ⟩))
        obtain ⟨tO3, tA3, O3, A3, hR3, hM3, rfl, rfl⟩ := HQ.out he
        rw [List.length_map, List.length_map] at hw
        refine ⟨⟨z, tO3, tA3, O3, A3, n', hf.2, by omega, hw.1, hw.2, hR3, hM3, (hb.trans hb1).trans hb2, HE⟩, ?_⟩
        rw [hat0, hR3.atOf]; omega
      · rw [hev] at hstep
        have HE := hid (show ([], e1) = R by rw [← HU.out, if_pos he])
        clear HU
        go_wp2_with (first | (go_at_call 76; go_must (refine hmore.mono ?_); rintro e w1 ⟨rfl, hb1, hR1, hM1⟩; (have z1 := At.lt hR1)) | (go_at_call 77; go_must (refine (hstep _ (hG1.out _ hb1) hR1 hM1).mono ?_); rintro e w2 ⟨rfl, hb2, HQ⟩))
        go_ret2
        refine ⟨.slice none 0 0, ?_, (hb.trans hb1).trans hb2, ?_⟩
        · rw [← HE.out]; simp only; rw [hev]; rfl
        · rw [← HE.out]; exact hid (opsN_nil _ _)
end Go.Proofs.YtefbfgcbbpmhlabGreatDoor

/-
  Filters of the document's answer: digits to the base 16 are taken apart.
-/
namespace Go.Proofs.YtefbfgcbbpmhlabGreatDoor
open Go.RowKit
set_option maxRecDepth 100000

theorem rBlankK (c : UInt8) (n : Int) (h : n = (c.toNat : Int)) (w : World) :
    Calls Tryz.prog 129 #[.int .u8 n] w fun e w' => e = .returned (.bool (isBl c)) ∧ w' = w := by
  subst h; exact rBlank c w
theorem rHexK (c : UInt8) (n : Int) (h : n = (c.toNat : Int)) (w : World) :
    Calls Tryz.prog 258 #[.int .u8 n] w fun e w' => e = .returned (.int .i64 (hexV c)) ∧ w' = w := by
  subst h; exact rHex c w
/-- How many digits there were, and the last one. -/
def Half (p : Option Nat) (N X : Int) : Prop := (p = none → N % 2 = 0) ∧ (∀ x, p = some x → N % 2 = 1 ∧ X = (x : Int) ∧ x < 16)
set_option maxHeartbeats 1000000 in
theorem rUnhex (s : ByteArray) (k0 : Nat) (w : World) (hk0 : k0 ≤ s.size) (hs : s.size ≤ 100000) :
    Calls Tryz.prog 188 #[.string s, .int .i64 k0] w fun e w' => e = .returned (.tuple #[.string ⟨(hexTk (s.data.toList.drop k0) none [] k0).2.1.toArray⟩, .int .i64 ((hexTk (s.data.toList.drop k0) none [] k0).2.2 : Nat), .int .i64 (hexTk (s.data.toList.drop k0) none [] k0).1]) ∧ Below w.heap.size w w' := by
  generalize hR : hexTk (s.data.toList.drop k0) none [] k0 = R
  have HR0 := hid hR
  clear hR
  go_enter Tryz.func188, Tryz.ntmps188
  go_wp2
  go_loopw [1, 7, 8, 9] (fun av bv nv xv wr => ∃ (k : Nat) (p : Option Nat) (pre : List UInt8) (N X : Int), av = .int .i64 k ∧ k ≤ s.size ∧ nv = .int .i64 N ∧ xv = .int .i64 X ∧ 0 ≤ N ∧ N ≤ k ∧ Half p N X ∧ pre.length ≤ k ∧ hexTk (s.data.toList.drop k) p pre k = R ∧ Own8 wr w.heap.size bv pre ∧ Below w.heap.size w wr) (fun av _ _ _ _ => s.size - (intOf av).toNat)
  case atStart => exact ⟨k0, none, [], 0, 0, rfl, hk0, rfl, rfl, by omega, by omega, ⟨(fun _ => rfl), (fun _ h => by cases h)⟩, by simp, HR0.out, Own8.nil _ _, Below.refl _ _⟩
  case round =>
    clear HR0
    obtain ⟨k, p, pre, N, X, rfl, hk, rfl, rfl, hN0, hNk, hH, hpl, hR, hown, hb⟩ := hrel
    have hbs := hb.size
    have HR := hid hR
    have HH := hid hH
    clear hR hH
    by_cases hlt : k < s.size
    · have HS := hid (hexTk_step s k p pre hlt)
      have hlt' : (k : Int) < s.size := by omega
      have hc := s[k].toNat_lt
      cases b0 : (s[k] == 62)
      case true =>
        have B0 := hid b0
        have q0 : (s[k].toNat : Int) = 62 := by rw [eq_of_beq b0]; rfl
        have h1 := HR.out
        rw [HS.out, if_pos b0] at h1
        have HRE := hid h1
        clear b0 h1
        cases p with
        | none =>
          have hn2 := HH.out.1 rfl
          have hcv := own8_conv hown
          go_wp2
          go_ret3
          refine ⟨?_, hb⟩
          rw [← HRE.out]; simp [pend]
        | some x =>
          obtain ⟨hn2, rfl, hx16⟩ := HH.out.2 x rfl
          obtain ⟨y, q1, hy⟩ : ∃ y : UInt8, (y.toNat : Int) = 16 * (x : Int) ∧ pend (some x) = [y] := ⟨UInt8.ofNat (16 * x), by simp only [UInt8.toNat_ofNat']; omega, rfl⟩
          have HY := hid hy
          clear hy
          go_wp2_with (at_builtin; refine wpApp8 rfl (.tmp 24) (.tmp 28) rfl w.heap.size _ pre rfl hown _ [y] 1 1 rfl rfl ?cc (by omega) hbs ?_)
          case cc => first | exact one8 q1 | (unfold byteV; rw [q1])
          intro v1 w1 hown1 hk1
          have hcv := own8_conv hown1
          go_wp2
          go_ret3
          refine ⟨?_, hb.trans hk1.below⟩
          rw [← HRE.out, HY.out]; rfl
      case false =>
        have B0 := hid b0
        have q0 : ((s[k].toNat : Int) == 62) = false := by rw [← b0]; exact beq_u8 s[k] 62
        clear b0
        cases b1 : isBl s[k]
        case true =>
          have B1 := hid b1
          go_wp2_with (go_at_call 129; refine (rBlank s[k] _).mono ?_; rintro e w1 ⟨rfl, rfl⟩)
          go_roundw
          case rel =>
            refine ⟨k + 1, p, pre, N, X, by go_num, by omega, rfl, rfl, hN0, by omega, HH.out, by omega, ?_, hown, hb⟩
            have h1 := HR.out
            rw [HS.out, if_neg (by rw [B0.out]; simp), if_pos B1.out] at h1
            exact h1
          case measure => simp [intOf]; omega
        case false =>
          have B1 := hid b1
          by_cases hv : hexV s[k] < 0
          · go_wp2_with (first
              | (go_at_call 129; refine (rBlank s[k] _).mono ?_; rintro e w1 ⟨rfl, rfl⟩)
              | (go_at_call 258; refine (rHex s[k] _).mono ?_; rintro e w1 ⟨rfl, rfl⟩))
            go_ret3
            refine ⟨?_, hb⟩
            have h1 := HR.out
            rw [HS.out, if_neg (by rw [B0.out]; simp), if_neg (by rw [B1.out]; simp), if_pos hv] at h1
            rw [← h1]; rfl
          · have hvr := hexV_rng s[k]
            obtain ⟨d, hd⟩ : ∃ d : Nat, hexV s[k] = d := ⟨(hexV s[k]).toNat, by omega⟩
            have hd16 : d < 16 := by omega
            have HD := hid hd
            have HQ := hid (show (hexV s[k]).toNat = d by omega)
            clear hvr hv
            cases p with
            | none =>
              have hn2 := HH.out.1 rfl
              go_wp2_with (first
                | (go_at_call 129; refine (rBlank s[k] _).mono ?_; rintro e w1 ⟨rfl, rfl⟩)
                | (go_at_call 258; refine (rHex s[k] _).mono ?_; rintro e w1 ⟨rfl, rfl⟩))
              go_roundw
              case rel =>
                refine ⟨k + 1, some d, pre, N + 1, d, by go_num, by omega, rfl, rfl, by omega, by omega, ⟨(fun h => by cases h), (fun x hx => by cases hx; exact ⟨by omega, rfl, hd16⟩)⟩, by omega, ?_, hown, hb⟩
                have h1 := HR.out
                rw [HS.out, if_neg (by rw [B0.out]; simp), if_neg (by rw [B1.out]; simp), if_neg (by have := HD.out; omega), HQ.out] at h1
                exact h1
              case measure => simp [intOf]; omega
            | some x =>
              obtain ⟨hn2, rfl, hx16⟩ := HH.out.2 x rfl
              obtain ⟨y, q1, hy⟩ : ∃ y : UInt8, (y.toNat : Int) = 16 * (x : Int) + d ∧ UInt8.ofNat (16 * x + d) = y := ⟨UInt8.ofNat (16 * x + d), by simp only [UInt8.toNat_ofNat']; omega, rfl⟩
              have HY := hid hy
              clear hy
              go_wp2_with (first
                | (go_at_call 129; refine (rBlank s[k] _).mono ?_; rintro e w1 ⟨rfl, rfl⟩)
                | (go_at_call 258; refine (rHex s[k] _).mono ?_; rintro e w1 ⟨rfl, rfl⟩)
                | (at_builtin; refine wpApp8 rfl (.tmp 47) (.tmp 53) rfl w.heap.size _ pre rfl hown _ [y] 1 1 rfl rfl ?cc (by omega) hbs ?_))
              case cc => first | exact one8 q1 | (unfold byteV; rw [q1])
              intro v2 w2 hown2 hk2
              go_wp2
              go_roundw
              case rel =>
                refine ⟨k + 1, none, pre ++ [y], N + 1, d, by go_num, by omega, rfl, rfl, by omega, by omega, ⟨(fun _ => by omega), (fun x hx => by cases hx)⟩, by simp; omega, ?_, hown2, hb.trans hk2.below⟩
                have h1 := HR.out
                rw [HS.out, if_neg (by rw [B0.out]; simp), if_neg (by rw [B1.out]; simp), if_neg (by have := HD.out; omega)] at h1
                simp only [HQ.out, HY.out] at h1
                exact h1
              case measure => simp [intOf]; omega
    · have hke : k = s.size := by omega
      go_wp2
      go_ret3
      refine ⟨?_, hb⟩
      have h1 := HR.out
      rw [hke, hexTk_end] at h1
      rw [← h1]; rfl
end Go.Proofs.YtefbfgcbbpmhlabGreatDoor

/-
  Reading, the document's answer: names.
-/
namespace Go.Proofs.YtefbfgcbbpmhlabGreatDoor
open Go.RowKit
set_option maxRecDepth 100000

theorem rSkipN (s : ByteArray) (k : Nat) (w : World) (hk : k ≤ s.size) (hs : s.size ≤ 100000) :
    Calls Tryz.prog 78 #[.string s, .int .i64 k] w fun e w' => e = .returned (.int .i64 (skipP s k : Nat)) ∧ w' = w := by
  have q := rSkip s k w (by unfold maxLen; omega)
  rw [place_in hk] at q; exact q
theorem rWordN (s : ByteArray) (k : Nat) (w : World) (hk : k ≤ s.size) (hs : s.size ≤ 100000) :
    Calls Tryz.prog 79 #[.string s, .int .i64 k] w fun e w' => e = .returned (.string (wordP s k)) ∧ w' = w := by
  have q := rWord s k w (by unfold maxLen; omega)
  rw [place_in hk] at q; exact q
/-- A name that is read: the bytes, where it ends, an error. -/
def rName (s : ByteArray) (k : Nat) : ByteArray × Nat × Int := match nameR (wordP s (k + 1)).data.toList with
  | none => (eB, 0, 4)
  | some b => (⟨b.toArray⟩, k + 1 + (wordP s (k + 1)).size, 0)
set_option maxHeartbeats 2000000 in
theorem rReadName (s : ByteArray) (k : Nat) (w : World) (hk : k < s.size) (hs : s.size ≤ 100000) :
    Calls Tryz.prog 185 #[.string s, .int .i64 k] w fun e w' => e = .returned (.tuple #[.string (rName s k).1, .int .i64 ((rName s k).2.1 : Nat), .int .i64 (rName s k).2.2]) ∧ Below w.heap.size w w' := by
  have hz := (wordP_size (s := s) (k := k + 1) (by omega)).2
  have HW := hid (fun (w : World) => show Calls Tryz.prog 79 #[.string s, .int .i64 ((k : Int) + 1)] w _ from rWordN s (k + 1) w (by omega) hs)
  unfold rName
  generalize wordP s (k + 1) = ww at *
  obtain ⟨T, hT⟩ : ∃ T : ByteArray × Nat × Int, (match nameR ww.data.toList with | none => (eB, 0, 4) | some b => (⟨b.toArray⟩, k + 1 + ww.size, 0)) = T := ⟨_, rfl⟩
  rw [hT]
  have HT := hid hT
  clear hT
  obtain ⟨R, hR⟩ : ∃ R, nameL ww.data.toList = R := ⟨_, rfl⟩
  have HR := hid hR
  clear hR
  go_enter Tryz.func185, Tryz.ntmps185
  go_wp2_with (go_at_call 79; go_must (refine (HW.out _).mono ?_); rintro e w1 ⟨rfl, rfl⟩)
  clear HW
  go_loopw [9, 10] (fun bv iv wr => ∃ (i : Nat) (pre : List UInt8), iv = .int .i64 i ∧ i ≤ ww.size ∧ pre.length ≤ i ∧ Hid ((nameL (ww.data.toList.drop i)).map (pre ++ ·) = R) ∧ Own8 wr w1.heap.size bv pre ∧ Below w1.heap.size w1 wr) (fun _ iv _ => ww.size - (intOf iv).toNat)
  case atStart => exact ⟨0, [], rfl, by omega, by simp, hid (by simpa using HR.out), Own8.nil _ _, Below.refl _ _⟩
  case round =>
    obtain ⟨i, pre, rfl, hi, hpl, HN, hown, hb⟩ := hrel
    have hbs := hb.size
    by_cases hlt : i < ww.size
    · have hlt' : (i : Int) < ww.size := by omega
      have hc := ww[i].toNat_lt
      have HD := hid (drop_at ww i hlt)
      by_cases h35 : ww[i] = 35
      · have q35 : (ww[i].toNat : Int) = 35 := by rw [h35]; rfl
        have H35 := hid h35
        clear h35
        by_cases h2 : i + 2 < ww.size
        · have h2' : ¬ (ww.size : Int) ≤ (i : Int) + 2 := by omega
          have h1' : (i : Int) + 1 < ww.size := by omega
          have h2'' : (i : Int) + 2 < ww.size := by omega
          have HD1 := hid (drop_at ww (i + 1) (by omega))
          have HD2 := hid (drop_at ww (i + 2) h2)
          have hx := ww[i + 1].toNat_lt
          have hy := ww[i + 2].toNat_lt
          have HE := hid (show (nameL (ww.data.toList.drop i)) = if hexV ww[i + 1] < 0 ∨ hexV ww[i + 2] < 0 then none else (nameL (ww.data.toList.drop (i + 3))).map (UInt8.ofNat (16 * (hexV ww[i + 1]).toNat + (hexV ww[i + 2]).toNat) :: ·) by
            rw [HD.out, HD1.out, HD2.out, H35.out, nameL_pair])
          by_cases hbad : hexV ww[i + 1] < 0 ∨ hexV ww[i + 2] < 0
          · have HTE := hid (show (eB, 0, 4) = T by rw [← HT.out, nameR_none (by rw [HR.out, ← HN.out, HE.out, if_pos hbad]; rfl)])
            have hb2 : hexV ww[i + 1] < 0 ∨ (¬ hexV ww[i + 1] < 0 ∧ hexV ww[i + 2] < 0) := by omega
            clear hbad
            rcases hb2 with h5 | ⟨h5, h6⟩
            all_goals
              go_wp2_with (go_at_call 258; refine (rHex _ _).mono ?_; rintro e w2 ⟨rfl, rfl⟩)
              go_ret3
              refine ⟨?_, hb⟩
              rw [← HTE.out]; rfl
          · have hvx := hexV_rng ww[i + 1]
            have hvy := hexV_rng ww[i + 2]
            obtain ⟨a, ha⟩ : ∃ a : Nat, hexV ww[i + 1] = a := ⟨(hexV ww[i + 1]).toNat, by omega⟩
            obtain ⟨c, hc⟩ : ∃ c : Nat, hexV ww[i + 2] = c := ⟨(hexV ww[i + 2]).toNat, by omega⟩
            have ha16 : a < 16 := by omega
            have hc16 : c < 16 := by omega
            obtain ⟨y, q1, hy⟩ : ∃ y : UInt8, (y.toNat : Int) = 16 * (a : Int) + c ∧ UInt8.ofNat (16 * a + c) = y := ⟨UInt8.ofNat (16 * a + c), by simp only [UInt8.toNat_ofNat']; omega, rfl⟩
            have HNX := hid (show (nameL (ww.data.toList.drop (i + 3))).map ((pre ++ [y]) ++ ·) = R by
              rw [← HN.out, HE.out, if_neg hbad, ha, hc, Int.toNat_natCast, Int.toNat_natCast, hy, map_pre])
            clear hy hbad HE HN hvx hvy
            go_wp2_with (first
              | (go_at_call 258; refine (rHex _ _).mono ?_; rintro e w2 ⟨rfl, rfl⟩)
              | (at_builtin; refine wpApp8 rfl (.tmp 54) (.tmp 60) rfl w1.heap.size _ pre rfl hown _ [y] 1 1 rfl rfl ?cc (by omega) hbs ?_))
            case cc => first | exact one8 q1 | (unfold byteV; rw [q1])
            intro v2 w2 hown2 hk2
            go_wp2
            go_roundw
            case rel => exact ⟨i + 3, pre ++ [y], by go_num, by omega, by simp; omega, hid HNX.out, hown2, hb.trans hk2.below⟩
            case measure => simp [intOf]; omega
        · have h2' : (ww.size : Int) ≤ (i : Int) + 2 := by omega
          have HTE := hid (show (eB, 0, 4) = T by
            rw [← HT.out, nameR_none (by
              rw [HR.out, ← HN.out, HD.out, H35.out]
              by_cases h1 : i + 1 < ww.size
              · rw [drop_at ww (i + 1) h1, List.drop_eq_nil_of_le (by simp; omega), nameL_short2]; rfl
              · rw [List.drop_eq_nil_of_le (by simp; omega), nameL_short1]; rfl)])
          go_wp2
          go_ret3
          refine ⟨?_, hb⟩
          rw [← HTE.out]; rfl
      · have q35 : ((ww[i].toNat : Int) == 35) = false := ne_u8 (k := 35) (by omega) h35
        have HNX := hid (show (nameL (ww.data.toList.drop (i + 1))).map ((pre ++ [ww[i]]) ++ ·) = R by
          rw [← HN.out, HD.out, nameL_plain (by simpa using h35), map_pre])
        clear h35 HN HD
        go_wp2_with (at_builtin; refine wpApp8 rfl (.tmp 64) (.tmp 68) rfl w1.heap.size _ pre rfl hown _ [ww[i]] 1 1 rfl rfl ?cc (by omega) hbs ?_)
        case cc => first | exact one8 rfl | rfl
        intro v2 w2 hown2 hk2
        go_wp2
        go_roundw
        case rel => exact ⟨i + 1, pre ++ [ww[i]], by go_num, by omega, by simp; omega, hid HNX.out, hown2, hb.trans hk2.below⟩
        case measure => simp [intOf]; omega
    · have hie : i = ww.size := by omega
      have hlt' : ¬ (i : Int) < ww.size := by omega
      have hnl : nameL ww.data.toList = some pre := by
        rw [HR.out, ← HN.out, List.drop_eq_nil_of_le (by simp; omega), nameL_nil]; simp
      have hcv := own8_conv hown
      have hnm := fun (w : World) => rNameMay (⟨pre.toArray⟩ : ByteArray) w (by unfold maxLen; show pre.toArray.size ≤ _; simp; omega)
      cases hm : nmOk (⟨pre.toArray⟩ : ByteArray)
      · have HTE := hid (show (eB, 0, 4) = T by
          rw [← HT.out, show nameR ww.data.toList = none by unfold nameR; rw [hnl]; simp [hm]])
        rw [hm] at hnm
        clear hm hnl HN
        go_wp2_with (go_at_call 193; refine (hnm _).mono ?_; rintro e w2 ⟨rfl, rfl⟩)
        go_ret3
        refine ⟨?_, hb⟩
        rw [← HTE.out]; rfl
      · have HTE := hid (show (⟨pre.toArray⟩, k + 1 + ww.size, 0) = T by
          rw [← HT.out, show nameR ww.data.toList = some pre by unfold nameR; rw [hnl]; simp [hm]])
        rw [hm] at hnm
        clear hm hnl HN
        go_wp2_with (go_at_call 193; refine (hnm _).mono ?_; rintro e w2 ⟨rfl, rfl⟩)
        go_ret3
        refine ⟨?_, hb⟩
        rw [← HTE.out]
        simp
end Go.Proofs.YtefbfgcbbpmhlabGreatDoor
