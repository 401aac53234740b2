/-
  ops.Parse, whole.
-/
import Derived.Test.YtefbfgcbbpmhlabGreatDoorOh
namespace Go.Proofs.YtefbfgcbbpmhlabGreatDoor
open Go.RowKit
set_option maxRecDepth 100000

theorem stepS (m : Int) (P B : Nat) (s : ByteArray) (j : Nat) (tO tA : Value) (O : List OC) (A : List VC) (w : World) (hG : Gr m w) (hP : P < B) (hR : RdO w P s j tO tA) (hM : OpsM B w tO tA O A) (hj : j < s.size) (hs : s.size ≤ 20000) (hO : O.length ≤ 2000) (hA : A.length ≤ 8) :
    Calls Tryz.prog 77 #[.pointer (some ⟨P, 0, none⟩)] w (StepSaid P B s w (stepR s j (O.map (·.1)) (A.map (·.1)))) := by
  cases hop : opMay (wordP s j)
  · exact stepVal m P B s j tO tA O A w hG hP hR hM hj hs hA hop
  · exact stepOp P B s j tO tA O A w hP hR hM hj hs hO hA hop
theorem stepR_few {s : ByteArray} {p : Nat} {O : List OpP} {A : List V} (h : (stepR s p O A).1 = 0) (hO : O.length ≤ 2000) (hA : A.length ≤ 8) : (stepR s p O A).2.2.1.length ≤ 2000 ∧ (stepR s p O A).2.2.2.length ≤ 8 := by
  unfold stepR at h ⊢
  by_cases h1 : opMay (wordP s p) = true
  · rw [if_pos h1] at h ⊢
    by_cases h2 : O.length = 2000
    · rw [if_pos h2] at h; exact absurd (show (2 : Int) = 0 from h) (by decide)
    · rw [if_neg h2]; exact ⟨by simp; omega, by simp⟩
  · rw [if_neg h1] at h ⊢
    by_cases h2 : (pV s p).2.1 ≠ 0
    · rw [if_pos h2] at h; exact absurd h h2
    · rw [if_neg h2] at h ⊢
      by_cases h3 : A.length = 8
      · rw [if_pos h3] at h; exact absurd (show (10 : Int) = 0 from h) (by decide)
      · rw [if_neg h3]; exact ⟨hO, by simp; omega⟩
/-- What reading says. -/
def ParseSaid (w : World) (r : List OpP × Int) (e : Ending) (w' : World) : Prop :=
  ∃ t, e = .returned (.tuple #[t, errN r.2]) ∧ Below w.heap.size w w' ∧ Hid (OpsN 10 w' t r.1)
theorem opsN_nil (d : Nat) (w : World) : OpsN d w (.slice none 0 0) [] := ⟨none, 0, rfl, by simp [maxLen], fun i o h => by simp at h⟩
/-- How far the reader in a block has come. -/
def atOf (b : Nat) (w : World) : Nat := match w.cell? ⟨b, 1, none⟩ with | some (.int _ n) => n.toNat | _ => 0
theorem At.atOf {w : World} {P : Nat} {s : ByteArray} {j : Nat} {tO tA : Value} (h : RdO w P s j tO tA) : atOf P w = j := by
  have h1 : w.cell? ⟨P, 1, none⟩ = some (.int .i64 (j : Int)) := At.cell h 1
  unfold Go.Proofs.YtefbfgcbbpmhlabGreatDoor.atOf; rw [h1]; simp
/-- What holds at the loop's beginning. -/
def OpsL (s : ByteArray) (w : World) (R : List OpP × Int) (wr : World) : Prop :=
  ∃ (j : Nat) (tO tA : Value) (O : List OC) (A : List VC) (n : Nat), j ≤ s.size ∧ s.size - j < n ∧ O.length ≤ 2000 ∧ A.length ≤ 8 ∧ RdO wr w.heap.size s j tO tA ∧ OpsM (w.heap.size + 1) wr tO tA O A ∧ Below w.heap.size w wr ∧ Hid (opsR s n j (O.map (·.1)) (A.map (·.1)) = R)
set_option maxHeartbeats 4000000 in
theorem parseS (m : Int) (s : ByteArray) (w : World) (hG : Gr m w) (hs : s.size ≤ 20000) : Calls Tryz.prog 31 #[.string s] w (ParseSaid w (opsP s)) := by
  obtain ⟨R, hR⟩ : ∃ R, opsR s (s.size + 1) 0 [] [] = R := ⟨_, rfl⟩
  rw [show opsP s = R by unfold opsP; rw [if_neg (by omega), hR]]
  have HR0 := hid hR
  have hs' : ¬ (20000 : Int) < s.size := by omega
  clear hR
  go_enter Tryz.func31, Tryz.ntmps31
  go_wp2
  go_loopw [] (fun wr => OpsL s w R wr) (fun wr => s.size - (atOf w.heap.size wr))
  case atStart =>
    refine ⟨0, .slice none 0 0, .slice none 0 0, [], [], s.size + 1, by omega, by omega, by simp, by simp, At.new _ _ _ rfl, OpsM.nil _ _ (by simp), below_box _ _, hid HR0.out⟩
  case round =>
    clear HR0
    obtain ⟨j, tO, tA, O, A, n, hj, hn, hO, hA, hRd, hM, hb, HT⟩ := hrel
    obtain ⟨n', rfl⟩ : ∃ n', n = n' + 1 := ⟨n - 1, by omega⟩
    have hat0 : atOf w.heap.size wr = j := hRd.atOf
    have hmore := moreS w.heap.size (w.heap.size + 1) s j tO tA O A wr (by omega) hRd hM hj hs
    have HU := HT.out
    rw [opsR] at HU
    have hql := skipP_le hj
    generalize skipP s j = q at hmore HU hql
    by_cases hq : q = s.size
    · rw [if_pos hq, List.length_map] at HU
      rw [decide_eq_false (by omega)] at hmore
      replace HU := hid HU
      obtain ⟨aA, cA, eA⟩ := own_sliceO hM.ownA
      subst eA
      by_cases hA0 : A.length = 0
      · have HE := hid (show (O.map (·.1), (0 : Int)) = R by rw [← HU.out, if_pos hA0])
        rw [hA0] at hmore
        go_wp2_with (go_at_call 76; go_must (refine hmore.mono ?_); rintro e w1 ⟨rfl, hb1, hR1, hM1⟩; (have d2 := At.cell hR1 2); (have d3 := At.cell hR1 3); (have z1 := At.lt hR1); simp at d2 d3)
        go_ret2
        refine ⟨tO, ?_, hb.trans hb1, ?_⟩
        · rw [← HE.out]; simp only; rw [errN_0]; rfl
        · rw [← HE.out]; exact hid (hM1.list (by omega))
      · have HE := hid (show ([], (5 : Int)) = R by rw [← HU.out, if_neg hA0])
        have hA1 : (0 : Int) < A.length := by omega
        go_wp2_with (go_at_call 76; go_must (refine hmore.mono ?_); rintro e w1 ⟨rfl, hb1, hR1, hM1⟩; (have d2 := At.cell hR1 2); (have d3 := At.cell hR1 3); (have z1 := At.lt hR1); simp at d2 d3)
        go_ret2
        refine ⟨.slice none 0 0, ?_, hb.trans hb1, ?_⟩
        · rw [← HE.out]; rfl
        · rw [← HE.out]; exact hid (opsN_nil _ _)
    · rw [if_neg hq] at HU
      rw [decide_eq_true (by omega)] at hmore
      have hql' : q < s.size := by omega
      have hfar := stepR_far (s := s) (p := q) (O := O.map (·.1)) (A := A.map (·.1)) (by omega)
      have hfew := stepR_few (s := s) (p := q) (O := O.map (·.1)) (A := A.map (·.1))
      rw [List.length_map, List.length_map] at hfew
      have hstep := fun (w1 : World) (h1 : Gr m w1) (h2 : RdO w1 w.heap.size s q tO tA) (h3 : OpsM (w.heap.size + 1) w1 tO tA O A) => stepS m w.heap.size (w.heap.size + 1) s q tO tA O A w1 h1 (by omega) h2 h3 hql' hs hO hA
      generalize stepR s q (O.map (·.1)) (A.map (·.1)) = r at hstep HU hfar hfew
      obtain ⟨e1, z, O2, A2⟩ := r
      unfold StepSaid at hstep
      simp only at hstep HU hfar hfew
      replace HU := hid HU
      replace hfar := hid hfar
      replace hfew := hid hfew
      have HEC := hid (errN_case e1)
      have hG1 := hid (fun (w1 : World) (h1 : Below w.heap.size wr w1) => hG.below (hb.trans h1))
      clear hM
      rcases HEC.out with ⟨he, hev⟩ | ⟨he, hev⟩
      · rw [hev] at hstep
        have HE := hid (show opsR s n' z O2 A2 = R by rw [← HU.out, if_neg (by simp [he])])
        have hf := hfar.out he
        have hw := hfew.out he hO hA
        clear HU
        go_wp2_with (first | (go_at_call 76; go_must (refine hmore.mono ?_); rintro e w1 ⟨rfl, hb1, hR1, hM1⟩; (have z1 := At.lt hR1)) | (go_at_call 77; go_must (refine (hstep _ (hG1.out _ hb1) hR1 hM1).mono ?_); rintro e w2 ⟨rfl, hb2, HQ⟩))
        obtain ⟨tO3, tA3, O3, A3, hR3, hM3, rfl, rfl⟩ := HQ.out he
        rw [List.length_map, List.length_map] at hw
        refine ⟨⟨z, tO3, tA3, O3, A3, n', hf.2, by omega, hw.1, hw.2, hR3, hM3, (hb.trans hb1).trans hb2, HE⟩, ?_⟩
        rw [hat0, hR3.atOf]; omega
      · rw [hev] at hstep
        have HE := hid (show ([], e1) = R by rw [← HU.out, if_pos he])
        clear HU
        go_wp2_with (first | (go_at_call 76; go_must (refine hmore.mono ?_); rintro e w1 ⟨rfl, hb1, hR1, hM1⟩; (have z1 := At.lt hR1)) | (go_at_call 77; go_must (refine (hstep _ (hG1.out _ hb1) hR1 hM1).mono ?_); rintro e w2 ⟨rfl, hb2, HQ⟩))
        go_ret2
        refine ⟨.slice none 0 0, ?_, (hb.trans hb1).trans hb2, ?_⟩
        · rw [← HE.out]; simp only; rw [hev]; rfl
        · rw [← HE.out]; exact hid (opsN_nil _ _)
end Go.Proofs.YtefbfgcbbpmhlabGreatDoor
