/-
  Operators are read: the document's answer.
-/
import Derived.Test.YtefbfgcbbpmhlabGreatDoorOi
import Derived.Test.YtefbfgcbbpmhlabGreatDoorOd
import Derived.Test.YtefbfgcbbpmhlabGreatDoorOk
namespace Go.Proofs.YtefbfgcbbpmhlabGreatDoor
open Go.RowKit
set_option maxRecDepth 100000

theorem operatorMay_is (s : ByteArray) (w : World) (hs : s.size ≤ 100000) {r : Bool} (h : opMay s = r) : Calls Tryz.prog 80 #[.string s] w fun e w' => e = .returned (.bool r) ∧ w' = w := by
  subst h; exact operatorMay_says s w (by unfold maxLen; omega)
/-- What the answer's reading says. -/
def OpsSaid (w : World) (r : List OpP × Int) (e : Ending) (w' : World) : Prop :=
  ∃ t, e = .returned (.tuple #[t, .int .i64 r.2]) ∧ Below w.heap.size w w' ∧ Hid (OpsN 10 w' t r.1)
theorem stepR_val {s : ByteArray} {p : Nat} {O : List OpP} {A : List V} (h : opMay (wordP s p) = false) : stepR s p O A = if (pV s p).2.1 ≠ 0 then ((pV s p).2.1, p, O, A) else if A.length = 8 then (10, p, O, A) else (0, (pV s p).2.2, O, A ++ [(pV s p).1]) := by
  unfold stepR; rw [if_neg (by rw [h]; simp)]
theorem pV_nn (s : ByteArray) (a : Int) : 0 ≤ (pV s a).2.1 := by
  unfold pV
  split
  · exact (by decide : (0 : Int) ≤ 1)
  · split
    · exact rdV_nn s 8 a.toNat
    · split
      · exact faultV_nn _
      · exact rdV_nn s 8 a.toNat
theorem below_grown {w wr wa w2 : World} {T : TypeId} {z n : Nat} {t : Value} {xs : List Value} (hb : Below w.heap.size w wr) (hown : wr.ownsRow w.heap.size T z t n xs) (ha : Below wr.heap.size wr wa) (hg : wa.grownBy w2 t.ownBlock) : Below w.heap.size w w2 :=
  ⟨hg.os.trans (ha.os.trans hb.os), hg.tape.trans (ha.tape.trans hb.tape), hg.output.trans (ha.output.trans hb.output), Nat.le_trans hb.size (Nat.le_trans ha.size hg.size), fun k hk => by
    have h1 := hb.size
    have h2 := ha.size
    rw [hg.block k (by omega) (fun e => by have := (hown.lt k e.symm).1; omega), ha.block k (by omega), hb.block k hk]⟩
theorem fresh2 {B : Nat} {a b : World} {tO tA : Value} {O : List OC} {A : List VC} {x : V} {c : List Value} {o1 o2 : Obj} (h : OpsM B a tO tA O A) (hb : Below a.heap.size a b) (hx : RepIn (fun g => a.heap.size ≤ g ∧ g < b.heap.size) 9 b x c) : RepIn (Free B ((b.alloc o1).alloc o2) tO tA) 9 ((b.alloc o1).alloc o2) x c := by
  have h1 := h.fresh hx
  have hs := hb.size
  refine (h1.agree (by simp; omega) fun k hk => ?_).mono fun k hk => ⟨hk.1, by simp; have := hk.2.1; omega, hk.2.2⟩
  rw [heap_alloc_old _ _ (by simp; have := hk.2.1; omega), heap_alloc_old _ _ hk.2.1]
/-- What holds at the loop's beginning. -/
def OpsK (s : ByteArray) (w : World) (R : List OpP × Int) (vO vA vp : Value) (wr : World) : Prop :=
  ∃ (j p : Nat) (O : List OC) (A : List VC) (n : Nat), vp = .int .i64 p ∧ skipP s j = p ∧ j ≤ s.size ∧ s.size - j < n ∧ O.length ≤ 2000 ∧ A.length ≤ 8 ∧ OpsM w.heap.size wr vO vA O A ∧ Below w.heap.size w wr ∧ Hid (opsR s n j (O.map (·.1)) (A.map (·.1)) = R)
set_option maxHeartbeats 4000000 in
theorem rOps (s : ByteArray) (w : World) (hs : s.size ≤ 20000) : Calls Tryz.prog 32 #[.string s] w (OpsSaid w (opsP s)) := by
  obtain ⟨iV, hiV, hv0, hv1, hv2⟩ := info_parts infoV
  obtain ⟨iO, hiO, ho0, ho1, ho2⟩ := info_parts infoOp
  obtain ⟨R, hR⟩ : ∃ R, opsR s (s.size + 1) 0 [] [] = R := ⟨_, rfl⟩
  rw [show opsP s = R by unfold opsP; rw [if_neg (by omega), hR]]
  have HR0 := hid hR
  have hs' : ¬ (20000 : Int) < s.size := by omega
  clear hR
  have hml : s.size ≤ maxLen := by unfold maxLen; omega
  have hsk := fun (w : World) => rSkipP s 0 0 w rfl (by omega) (by omega)
  go_enter Tryz.func32, Tryz.ntmps32
  go_wp2_with (go_at_call 78; refine (hsk _).mono ?_; rintro e w1 ⟨rfl, hw1⟩; rw [hw1]; clear hw1 w1)
  go_loopw [4, 5, 6] (fun vO vA vp wr => OpsK s w R vO vA vp wr) (fun _ _ vp _ => s.size - (intOf vp).toNat)
  case atStart =>
    exact ⟨0, _, [], [], s.size + 1, rfl, rfl, by omega, by omega, by simp, by simp, OpsM.nil _ _ (Nat.le_refl _), Below.refl _ _, hid HR0.out⟩
  case round =>
    clear HR0 hsk
    obtain ⟨j, p, O, A, n, rfl, hpj, hj, hn, hO, hA, hM, hb, HT⟩ := hrel
    obtain ⟨n', rfl⟩ : ∃ n', n = n' + 1 := ⟨n - 1, by omega⟩
    have HU := HT.out
    rw [opsR, hpj] at HU
    have hql := skipP_le hj
    rw [hpj] at hql
    obtain ⟨aO, cO, eO⟩ := own_sliceO hM.ownO
    obtain ⟨aA, cA, eA⟩ := own_sliceO hM.ownA
    subst eO eA
    by_cases hq : p = s.size
    · rw [if_pos hq, List.length_map] at HU
      have hq' : ¬ (p : Int) < s.size := by omega
      replace HU := hid HU
      by_cases hA0 : A.length = 0
      · have HE := hid (show (O.map (·.1), (0 : Int)) = R by rw [← HU.out, if_pos hA0])
        have hA1 : ¬ (0 : Int) < A.length := by omega
        go_wp2
        go_ret2
        refine ⟨.slice aO O.length cO, ?_, hb, ?_⟩
        · rw [← HE.out]; rfl
        · rw [← HE.out]; exact hid (hM.list (by omega))
      · have HE := hid (show ([], (5 : Int)) = R by rw [← HU.out, if_neg hA0])
        have hA1 : (0 : Int) < A.length := by omega
        go_wp2
        go_ret2
        refine ⟨.slice none 0 0, ?_, hb, ?_⟩
        · rw [← HE.out]; rfl
        · rw [← HE.out]; exact hid (opsN_nil _ _)
    · rw [if_neg hq] at HU
      have hql' : p < s.size := by omega
      have hq' : (p : Int) < s.size := by omega
      have hp0 : (0 : Int) ≤ p := by omega
      have hwd := fun (w : World) => rWordN s p w (by omega) (by omega)
      have hwl := yWordLe (s := s) (k := p) (by omega)
      cases hop : opMay (wordP s p)
      · have hmay := fun (w : World) => operatorMay_is (wordP s p) w (by omega) hop
        have HE := hid (show (if (pV s p).2.1 ≠ 0 then ([], (pV s p).2.1) else if A.length = 8 then ([], (10 : Int)) else opsR s n' (pV s p).2.2 (O.map (·.1)) (A.map (·.1) ++ [(pV s p).1])) = R by
          rw [← HU, stepR_val hop, List.length_map]
          by_cases h : (pV s p).2.1 ≠ 0
          · rw [if_pos h, if_pos h, if_pos h]
          · rw [if_neg h, if_neg h]
            by_cases h8 : A.length = 8
            · rw [if_pos h8, if_pos h8, if_pos (by simp)]
            · rw [if_neg h8, if_neg h8, if_neg (by simp)])
        clear HU hop
        generalize wordP s p = W at hwd hmay hwl
        have hrd := fun (w : World) => rReadI s (p : Int) w
        have hfar := pV_far (s := s) (k := p) (by omega)
        have hnn := pV_nn s (p : Int)
        generalize pV s (p : Int) = r at hrd HE hfar hnn
        obtain ⟨v, e1, z⟩ := r
        unfold SaidJ at hrd
        simp only at hrd HE hfar hnn
        replace HE := hid HE.out
        by_cases he : e1 = 0
        · subst he
          have hf := hfar rfl
          clear hfar hnn
          have HE1 := hid (show (if A.length = 8 then ([], (10 : Int)) else opsR s n' z (O.map (·.1)) (A.map (·.1) ++ [v])) = R by have h := HE.out; rw [if_neg (show ¬ ((0 : Int) ≠ 0) by decide)] at h; exact h)
          clear HE
          by_cases h8 : A.length = 8
          · have HE2 := hid (show ([], (10 : Int)) = R by rw [← HE1.out, if_pos h8])
            have h8' : (A.length : Int) = 8 := by omega
            clear HE1
            go_wp2_with (first | (go_at_call 79; refine (hwd _).mono ?_; rintro e w1 ⟨rfl, hw1⟩; rw [hw1]; clear hw1 w1) | (go_at_call 80; refine (hmay _).mono ?_; rintro e w1 ⟨rfl, hw1⟩; rw [hw1]; clear hw1 w1) | (go_at_call 81; go_must (refine (hrd _).mono ?_); rintro e w3 ⟨k1, n1, t1, a1, a2, l1, c1, l2, c2, rfl, hb3, HQ⟩; (have hz3 := hb3.size)))
            go_ret2
            refine ⟨.slice none 0 0, ?_, ?_, ?_⟩
            · rw [← HE2.out]; rfl
            · exact (hb.trans (hb3.mono hb.size)).alloc (Nat.le_trans hb.size hz3) _
            · rw [← HE2.out]; exact hid (opsN_nil _ _)
          · have HE2 := hid (show opsR s n' z (O.map (·.1)) (A.map (·.1) ++ [v]) = R by rw [← HE1.out, if_neg h8])
            have h8' : ¬ (A.length : Int) = 8 := by omega
            have h88 : ((A.length : Int) == 8) = false := by simpa using h8'
            have hskp := fun (w : World) => rSkipP s (z : Int) z w rfl (by omega) (by omega)
            have hle := hM.le
            clear HE1
            go_wp2_with (first | (go_at_call 79; refine (hwd _).mono ?_; rintro e w1 ⟨rfl, hw1⟩; rw [hw1]; clear hw1 w1) | (go_at_call 80; refine (hmay _).mono ?_; rintro e w1 ⟨rfl, hw1⟩; rw [hw1]; clear hw1 w1) | (go_at_call 81; go_must (refine (hrd _).mono ?_); rintro e w3 ⟨k1, n1, t1, a1, a2, l1, c1, l2, c2, rfl, hb3, HQ⟩; (have hz3 := hb3.size)) | (at_builtin; (have hMa := hM.later (((hb3).alloc hz3 (.cells #[.int .i64 k1, .int .i64 n1, .string t1, .slice a1 l1 c1, .slice a2 l2 c2] 26)).alloc (by simp; omega) (.cells #[.int .i64 k1, .int .i64 n1, .string t1, .slice a1 l1 c1, .slice a2 l2 c2] 26))); refine wpList_append_own_at _ rfl (.tmp 55) (.tmp 57) 23 rfl w.heap.size 26 iV _ 5 80 Tryz.underlying23 hiV hv0 hv1 hv2 rfl (by decide) _ _ _ rfl hMa.ownA ⟨w3.heap.size + 1, 0, none⟩ 1 1 [.int .i64 k1, .int .i64 n1, .string t1, .slice a1 l1 c1, .slice a2 l2 c2] rfl rfl (fun i u hi => news_at2 rfl i u hi) (by simp [Value.oneCell']) (by unfold maxLen; omega) (by omega) (by simp; omega) ?_; intro v' w4 hown4 hg4 _ hat4; obtain ⟨a', c', rfl⟩ := own_sliceO hown4; (have HY := hid (hMa.addV (fresh2 hM hb3 HQ.out) hown4 hg4 hat4)); (have hb4 := hid (below_grown hb hM.ownA (((hb3).alloc hz3 _).alloc (by simp; omega) _) hg4)); clear hown4 hg4 hat4 hMa) | (go_at_call 78; refine (hskp _).mono ?_; rintro e w1 ⟨rfl, hw1⟩; rw [hw1]; clear hw1 w1))
            have hsl := (skipP_le (s := s) (k := z) (by omega)).1
            refine ⟨⟨z, _, O, _, n', rfl, rfl, by omega, by omega, hO, by simp; omega, HY.out, hb4.out, hid ?_⟩, ?_⟩
            · have h := HE2.out; rw [List.map_append]; exact h
            · simp [intOf]; omega
        · have HE1 := hid (show ([], e1) = R by rw [← HE.out, if_pos he])
          have he' : (0 : Int) < e1 := by omega
          clear HE he hfar
          go_wp2_with (first | (go_at_call 79; refine (hwd _).mono ?_; rintro e w1 ⟨rfl, hw1⟩; rw [hw1]; clear hw1 w1) | (go_at_call 80; refine (hmay _).mono ?_; rintro e w1 ⟨rfl, hw1⟩; rw [hw1]; clear hw1 w1) | (go_at_call 81; go_must (refine (hrd _).mono ?_); rintro e w3 ⟨k1, n1, t1, a1, a2, l1, c1, l2, c2, rfl, hb3, HQ⟩; (have hz3 := hb3.size)))
          go_ret2
          refine ⟨.slice none 0 0, ?_, ?_, ?_⟩
          · rw [← HE1.out]; rfl
          · exact (hb.trans (hb3.mono hb.size)).alloc (Nat.le_trans hb.size hz3) _
          · rw [← HE1.out]; exact hid (opsN_nil _ _)
      · have hmay := fun (w : World) => operatorMay_is (wordP s p) w (by omega) hop
        have HE := hid (show (if O.length = 2000 then ([], (2 : Int)) else opsR s n' (p + (wordP s p).size) (O.map (·.1) ++ [(wordP s p, A.map (·.1))]) []) = R by
          rw [← HU]; unfold stepR; rw [if_pos hop, List.length_map]
          by_cases h : O.length = 2000
          · rw [if_pos h, if_pos h, if_pos (by simp)]
          · rw [if_neg h, if_neg h, if_neg (by simp)])
        have hpos := opMay_pos hop
        clear HU hop
        generalize wordP s p = W at hwd hmay HE hwl hpos
        by_cases hO2 : O.length = 2000
        · have HE2 := hid (show ([], (2 : Int)) = R by rw [← HE.out, if_pos hO2])
          have hO2' : (O.length : Int) = 2000 := by omega
          clear HE
          go_wp2_with (first | (go_at_call 79; refine (hwd _).mono ?_; rintro e w1 ⟨rfl, hw1⟩; rw [hw1]; clear hw1 w1) | (go_at_call 80; refine (hmay _).mono ?_; rintro e w1 ⟨rfl, hw1⟩; rw [hw1]; clear hw1 w1))
          go_ret2
          refine ⟨.slice none 0 0, ?_, hb, ?_⟩
          · rw [← HE2.out]; rfl
          · rw [← HE2.out]; exact hid (opsN_nil _ _)
        · have HE2 := hid (show opsR s n' (p + W.size) (O.map (·.1) ++ [(W, A.map (·.1))]) [] = R by rw [← HE.out, if_neg hO2])
          have hO2' : ¬ (O.length : Int) = 2000 := by omega
          have hO3 : ((O.length : Int) == 2000) = false := by simpa using hO2'
          have hwl' : (p : Int) + W.size ≤ 100000 := by omega
          have hskp := fun (w : World) => rSkipP s ((p : Int) + W.size) (p + W.size) w (by omega) (by omega) (by omega)
          have hle := hM.le
          clear HE
          go_wp2_with (first | (go_at_call 79; refine (hwd _).mono ?_; rintro e w1 ⟨rfl, hw1⟩; rw [hw1]; clear hw1 w1) | (go_at_call 80; refine (hmay _).mono ?_; rintro e w1 ⟨rfl, hw1⟩; rw [hw1]; clear hw1 w1) | (at_builtin; refine wpList_append_own_at _ rfl (.tmp 30) (.tmp 34) 69 rfl w.heap.size 80 iO _ 2 40 Tryz.underlying69 hiO ho0 ho1 ho2 rfl (by decide) _ _ _ rfl (hM.ownO.alloc _) ⟨wr.heap.size, 0, none⟩ 1 1 [.string W, .slice aA A.length cA] rfl rfl (fun i u hi => news_at rfl i u hi) (by simp [Value.oneCell']) (by unfold maxLen; omega) (by omega) (by simp; omega) ?_; intro v' w2 hown2 hg2 _ hat2; obtain ⟨a', c', rfl⟩ := own_sliceO hown2; (have HY := hid ((hM.later (below_box wr _)).addO (by unfold maxLen; omega) (by omega) hown2 hg2 hat2)); (have hb2 := hid (below_grown hb hM.ownO (below_box wr _) hg2)); clear hown2 hg2 hat2) | (go_at_call 78; refine (hskp _).mono ?_; rintro e w1 ⟨rfl, hw1⟩; rw [hw1]; clear hw1 w1))
          have hsl := (skipP_le (s := s) (k := p + W.size) (by omega)).1
          refine ⟨⟨p + W.size, _, _, [], n', rfl, rfl, by omega, by omega, by simp; omega, by simp, HY.out, hb2.out, hid ?_⟩, ?_⟩
          · have h := HE2.out; rw [List.map_append]; exact h
          · simp [intOf]; omega
end Go.Proofs.YtefbfgcbbpmhlabGreatDoor
