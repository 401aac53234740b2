/-
  What is wrong with spans: the program's answer.
-/
import Derived.Test.YtggojafapieliabDoorCc
namespace Go.Proofs.YtggojafapieliabDoor
open Go.RowKit
set_option maxRecDepth 100000

theorem sFault_nil (most a : Int) : sFault most a [] = 0 := rfl
theorem sFault_1 {most a : Int} {x : Sp} {l : List Sp} (h : x.f < 0 ∨ most < x.t) : sFault most a (x :: l) = 1 := by unfold sFault; rw [if_pos h]
theorem sFault_3 {most a : Int} {x : Sp} {l : List Sp} (h : ¬ (x.f < 0 ∨ most < x.t)) (k : x.t < x.f ∨ x.f ≤ a ∨ ¬ mayT x.s.data.toList (x.t - x.f).toNat) : sFault most a (x :: l) = 3 := by unfold sFault; rw [if_neg h, if_pos k]
theorem sFault_on {most a : Int} {x : Sp} {l : List Sp} (h : ¬ (x.f < 0 ∨ most < x.t)) (k : ¬ (x.t < x.f ∨ x.f ≤ a ∨ ¬ mayT x.s.data.toList (x.t - x.f).toNat)) : sFault most a (x :: l) = sFault most x.t l := by rw [sFault, if_neg h, if_neg k]
set_option maxHeartbeats 2000000 in
theorem check_sp (l : List Sp) (wide : Bool) (al : Option Addr) (cap : Nat) (w : World) (hl : l.length ≤ maxLen) (hA : SpAt w al l) (hT : Tb w) :
    Calls Tryd.prog 23 #[.slice al l.length cap, .bool wide] w fun e w' => e = .returned (errN (spFault l wide)) ∧ Below w.heap.size w w' := by
  unfold maxLen at hl
  by_cases h3 : 300 < l.length
  · have h3' : (300 : Int) < l.length := by omega
    have hf : spFault l wide = 2 := by unfold spFault; rw [if_pos h3]
    rw [hf]
    go_enter Tryd.func23, Tryd.ntmps23
    go_wp2
    go_ret
    exact ⟨rfl, Below.refl _ _⟩
  have h3' : ¬ (300 : Int) < l.length := by omega
  have HA := hid hA
  have HT := hid hT
  clear hA hT
  have hf : spFault l wide = sFault (mostOf wide) (-1) l := by unfold spFault; rw [if_neg h3]
  rw [hf]
  obtain ⟨F, hF⟩ : ∃ F, sFault (mostOf wide) (-1) l = F := ⟨_, rfl⟩
  rw [hF]
  have HF := hid hF
  clear hf hF
  obtain ⟨mst, hm, hm0, hm1⟩ : ∃ m, mostOf wide = m ∧ (0 : Int) ≤ m ∧ m ≤ 65535 := ⟨_, rfl, by unfold mostOf; split <;> decide, by unfold mostOf; split <;> decide⟩
  cases wide
  · have HM := hid hm
    clear hm
    go_enter Tryd.func23, Tryd.ntmps23
    go_wp2_with fail
    go_loopw [6, 16] (fun a i wr => ∃ (p : Nat) (y : Int), i = .int .i64 p ∧ a = .int .i64 y ∧ p ≤ l.length ∧ (-1 ≤ y ∧ y ≤ 65535) ∧ Hid (sFault mst y (l.drop p) = F) ∧ Below w.heap.size w wr) (fun _ i _ => l.length - (intOf i).toNat)
    case atStart => exact ⟨0, -1, rfl, rfl, Nat.zero_le _, ⟨by decide, by decide⟩, by rw [List.drop_zero, ← HM.out]; exact HF, Below.refl _ _⟩
    case round =>
      obtain ⟨p, y, rfl, rfl, hp, ⟨hy0, hy1⟩, HY, hB⟩ := hrel
      by_cases hpl : p < l.length
      · have hpl' : (p : Int) < l.length := by omega
        have hm3 := HM.out
        unfold mostOf at hm3
        simp only [reduceIte, Bool.false_eq_true] at hm3
        subst hm3
        obtain ⟨b, off, rfl, hbl, g0, g1, g2, ⟨f0, f1⟩, ⟨t0, t1⟩, hs⟩ := (HA.out.later hB) p l[p] (List.getElem?_eq_getElem hpl)
        have hd : l.drop p = l[p] :: l.drop (p + 1) := List.drop_eq_getElem_cons hpl
        have HY2 := HY.out
        rw [hd] at HY2
        clear hd HY
        generalize l[p] = x at *
        by_cases c1 : x.f < 0
        · rw [sFault_1 (.inl c1)] at HY2
          subst HY2
          go_wp2_with fail
          go_ret
          exact ⟨rfl, chn' hB (by go_grown)⟩
        by_cases c2 : 255 < x.t
        · rw [sFault_1 (.inr c2)] at HY2
          subst HY2
          go_wp2_with fail
          go_ret
          exact ⟨rfl, chn' hB (by go_grown)⟩
        have hn : ¬ (x.f < 0 ∨ 255 < x.t) := fun q => q.elim c1 c2
        by_cases c3 : x.t < x.f
        · rw [sFault_3 hn (.inl c3)] at HY2
          subst HY2
          clear hn
          go_wp2_with fail
          go_ret
          exact ⟨rfl, chn' hB (by go_grown)⟩
        by_cases c4 : x.f ≤ y
        · rw [sFault_3 hn (.inr (.inl c4))] at HY2
          subst HY2
          clear hn
          go_wp2_with fail
          go_ret
          exact ⟨rfl, chn' hB (by go_grown)⟩
        obtain ⟨k, hk⟩ : ∃ k : Nat, x.t - x.f = (k : Int) := ⟨(x.t - x.f).toNat, by omega⟩
        have ht := fun (W : World) (hW : Tb W) => textMay_says x.s k W (by omega) hs hW
        rw [← hk] at ht
        have hkn : (x.t - x.f).toNat = k := by omega
        by_cases c5 : mayT x.s.data.toList k
        · rw [sFault_on hn (fun q => q.elim c3 (fun q => q.elim c4 (fun q => q (by rw [hkn]; exact c5))))] at HY2
          rw [decide_eq_true c5] at ht
          have HY3 := hid HY2
          clear hn HY2 c5 hkn hk
          go_wp2_with (go_at_call 48; go_must (refine (ht _ (HT.out.below (chn' hB (by go_grown)))).mono ?_); rintro e w2 ⟨rfl, hb2⟩; have x1 := hb2.cell (p := ⟨wr.heap.size, 1, none⟩) (by simp))
          go_roundw
          case rel => exact ⟨p + 1, x.t, by go_num, rfl, by omega, ⟨by omega, by omega⟩, HY3, chn' hB (chn' (by go_grown) hb2)⟩
          case measure => simp [intOf]; omega
        · rw [sFault_3 hn (.inr (.inr (by rw [hkn]; exact c5)))] at HY2
          subst HY2
          rw [decide_eq_false c5] at ht
          clear hn c5 hkn hk
          go_wp2_with (go_at_call 48; go_must (refine (ht _ (HT.out.below (chn' hB (by go_grown)))).mono ?_); rintro e w2 ⟨rfl, hb2⟩)
          go_ret
          exact ⟨rfl, chn' hB (chn' (by go_grown) hb2)⟩
      · have hpl' : ¬ (p : Int) < l.length := by omega
        have h0 := HY.out
        rw [List.drop_eq_nil_of_le (by omega)] at h0
        subst h0
        go_wp2_with fail
        go_ret
        exact ⟨rfl, hB⟩
  · have HM := hid hm
    clear hm
    go_enter Tryd.func23, Tryd.ntmps23
    go_wp2_with fail
    go_loopw [6, 16] (fun a i wr => ∃ (p : Nat) (y : Int), i = .int .i64 p ∧ a = .int .i64 y ∧ p ≤ l.length ∧ (-1 ≤ y ∧ y ≤ 65535) ∧ Hid (sFault mst y (l.drop p) = F) ∧ Below w.heap.size w wr) (fun _ i _ => l.length - (intOf i).toNat)
    case atStart => exact ⟨0, -1, rfl, rfl, Nat.zero_le _, ⟨by decide, by decide⟩, by rw [List.drop_zero, ← HM.out]; exact HF, Below.refl _ _⟩
    case round =>
      obtain ⟨p, y, rfl, rfl, hp, ⟨hy0, hy1⟩, HY, hB⟩ := hrel
      by_cases hpl : p < l.length
      · have hpl' : (p : Int) < l.length := by omega
        have hm3 := HM.out
        unfold mostOf at hm3
        simp only [reduceIte] at hm3
        subst hm3
        obtain ⟨b, off, rfl, hbl, g0, g1, g2, ⟨f0, f1⟩, ⟨t0, t1⟩, hs⟩ := (HA.out.later hB) p l[p] (List.getElem?_eq_getElem hpl)
        have hd : l.drop p = l[p] :: l.drop (p + 1) := List.drop_eq_getElem_cons hpl
        have HY2 := HY.out
        rw [hd] at HY2
        clear hd HY
        generalize l[p] = x at *
        by_cases c1 : x.f < 0
        · rw [sFault_1 (.inl c1)] at HY2
          subst HY2
          go_wp2_with fail
          go_ret
          exact ⟨rfl, chn' hB (by go_grown)⟩
        by_cases c2 : 65535 < x.t
        · rw [sFault_1 (.inr c2)] at HY2
          subst HY2
          go_wp2_with fail
          go_ret
          exact ⟨rfl, chn' hB (by go_grown)⟩
        have hn : ¬ (x.f < 0 ∨ 65535 < x.t) := fun q => q.elim c1 c2
        by_cases c3 : x.t < x.f
        · rw [sFault_3 hn (.inl c3)] at HY2
          subst HY2
          clear hn
          go_wp2_with fail
          go_ret
          exact ⟨rfl, chn' hB (by go_grown)⟩
        by_cases c4 : x.f ≤ y
        · rw [sFault_3 hn (.inr (.inl c4))] at HY2
          subst HY2
          clear hn
          go_wp2_with fail
          go_ret
          exact ⟨rfl, chn' hB (by go_grown)⟩
        obtain ⟨k, hk⟩ : ∃ k : Nat, x.t - x.f = (k : Int) := ⟨(x.t - x.f).toNat, by omega⟩
        have ht := fun (W : World) (hW : Tb W) => textMay_says x.s k W (by omega) hs hW
        rw [← hk] at ht
        have hkn : (x.t - x.f).toNat = k := by omega
        by_cases c5 : mayT x.s.data.toList k
        · rw [sFault_on hn (fun q => q.elim c3 (fun q => q.elim c4 (fun q => q (by rw [hkn]; exact c5))))] at HY2
          rw [decide_eq_true c5] at ht
          have HY3 := hid HY2
          clear hn HY2 c5 hkn hk
          go_wp2_with (go_at_call 48; go_must (refine (ht _ (HT.out.below (chn' hB (by go_grown)))).mono ?_); rintro e w2 ⟨rfl, hb2⟩; have x1 := hb2.cell (p := ⟨wr.heap.size, 1, none⟩) (by simp))
          go_roundw
          case rel => exact ⟨p + 1, x.t, by go_num, rfl, by omega, ⟨by omega, by omega⟩, HY3, chn' hB (chn' (by go_grown) hb2)⟩
          case measure => simp [intOf]; omega
        · rw [sFault_3 hn (.inr (.inr (by rw [hkn]; exact c5)))] at HY2
          subst HY2
          rw [decide_eq_false c5] at ht
          clear hn c5 hkn hk
          go_wp2_with (go_at_call 48; go_must (refine (ht _ (HT.out.below (chn' hB (by go_grown)))).mono ?_); rintro e w2 ⟨rfl, hb2⟩)
          go_ret
          exact ⟨rfl, chn' hB (chn' (by go_grown) hb2)⟩
      · have hpl' : ¬ (p : Int) < l.length := by omega
        have h0 := HY.out
        rw [List.drop_eq_nil_of_le (by omega)] at h0
        subst h0
        go_wp2_with fail
        go_ret
        exact ⟨rfl, hB⟩
end Go.Proofs.YtggojafapieliabDoor
