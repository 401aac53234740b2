/-
  A code's text, and digits: the answer's.
-/
import Derived.Test.YtggojafapieliabDoorCk
namespace Go.Proofs.YtggojafapieliabDoor
open Go.RowKit
set_option maxRecDepth 100000
attribute [local go_sem ↓] Go.wp_at_zero Go.wp_at_succ

set_option maxHeartbeats 2000000 in
theorem codeText_sp (l : List Sp) (wide : Bool) (c : Int) (al : Option Addr) (cap : Nat) (w : World) (hl : l.length ≤ 300) (hA : SpAt w al l) (hf : spFault l wide = 0) :
    Calls Tryd.prog 42 #[.slice al l.length cap, .int .i64 c] w fun e w' => e = .returned (.tuple #[.string ⟨((codeT l c).getD []).toArray⟩, .bool (codeT l c).isSome]) ∧ Below w.heap.size w w' := by
  have HA := hid hA
  have HF := hid (spFault_ok hf)
  clear hA hf
  obtain ⟨R, hR⟩ : ∃ R, codeT l c = R := ⟨_, rfl⟩
  rw [hR]
  have hR' : (match spOf l c with | none => none | some x => goOn x.s.data.toList (c - x.f).toNat) = R := hR
  have HR := hid hR'
  clear hR hR'
  go_enter Tryd.func42, Tryd.ntmps42
  go_wp2_with fail
  go_loopw [6] (fun i wr => ∃ p : Nat, i = .int .i64 p ∧ p ≤ l.length ∧ Hid (spOf l c = spOf (l.drop p) c) ∧ Below w.heap.size w wr) (fun i _ => l.length - (intOf i).toNat)
  case atStart => exact ⟨0, rfl, Nat.zero_le _, rfl, Below.refl _ _⟩
  case round =>
    obtain ⟨p, rfl, hp, HP, hB⟩ := hrel
    by_cases hpl : p < l.length
    · have hpl' : (p : Int) < l.length := by omega
      have hmem := List.getElem_mem hpl
      obtain ⟨b, off, rfl, hbl, g0, g1, g2, _, _, _⟩ := (HA.out.later hB) p l[p] (List.getElem?_eq_getElem hpl)
      have hd : l.drop p = l[p] :: l.drop (p + 1) := List.drop_eq_getElem_cons hpl
      have H1 := HP.out
      rw [hd] at H1
      obtain ⟨e1, e2, e3, e4⟩ := HF.out.2 l[p] hmem
      clear hd HP hmem
      generalize l[p] = x at *
      by_cases hc : x.f ≤ c ∧ c ≤ x.t
      · obtain ⟨c1, c2⟩ := hc
        have h2 : spOf l c = some x := by rw [H1, spOf, if_pos ⟨c1, c2⟩]
        obtain ⟨k, hk⟩ : ∃ k : Nat, c - x.f = (k : Int) := ⟨(c - x.f).toNat, by omega⟩
        have hm : mostOf wide ≤ 65535 := by unfold mostOf; split <;> decide
        obtain ⟨a, r, q1, q2, q3, q4, q5, q6, q7, q8⟩ := mayT_open e4
        obtain ⟨_, q10⟩ := mayT_less (j := k) q1 q6 q7 (by omega)
        have hon := fun W => on_says x.s k W (by have : x.s.data.toList.length = x.s.size := by simp
                                                 omega) (by omega)
        have hRR : goOn x.s.data.toList k = R := by
          have q := HR.out
          rw [h2] at q
          simp only at q
          rw [show (c - x.f).toNat = k by omega] at q
          exact q
        rw [hRR, ← hk] at hon
        have hcf : (0 : Int) ≤ x.f := e1
        have hcb : c ≤ 65535 := by omega
        have hc0 : (0 : Int) ≤ c := by omega
        have HW := hid (show IntKind.i64.wrap (c - x.f) = c - x.f from IntWalk.i64_in _ (by omega))
        clear h2 H1 q1 q2 q3 q4 q5 q6 q7 q8 q10 e4 hm hk hRR e3 e2 e1
        go_wp2_with fail
        go_region_with (go_at_call 56; rw [HW.out]; refine (hon _).mono ?_; rintro e w5 ⟨rfl, hb5⟩)
        all_goals
          go_wp2_with fail
          go_ret2
          exact ⟨rfl, chn' hB (below_undrew hb5)⟩
      · have h2 : spOf l c = spOf (l.drop (p + 1)) c := by rw [H1, spOf, if_neg hc]
        have H2 := hid h2
        clear h2 H1 e4
        by_cases c1 : x.f ≤ c
        · have c2 : ¬ c ≤ x.t := fun q => hc ⟨c1, q⟩
          clear hc
          go_wp2_with fail
          go_roundw
          case rel => exact ⟨p + 1, by go_num, by omega, H2, hB⟩
          case measure => simp [intOf]; omega
        · clear hc
          go_wp2_with fail
          go_roundw
          case rel => exact ⟨p + 1, by go_num, by omega, H2, hB⟩
          case measure => simp [intOf]; omega
    · have hpl' : ¬ (p : Int) < l.length := by omega
      have h0 := HP.out
      rw [List.drop_eq_nil_of_le (by omega)] at h0
      have hRR : R = none := by
        have q := HR.out
        rw [h0] at q
        exact q.symm
      subst hRR
      go_wp2_with fail
      go_ret2
      exact ⟨rfl, hB⟩
theorem conv_new1 {W : World} {c : UInt8} {x : Int} {t : TypeId} (h : (c.toNat : Int) = x) : (convert 73 9 (.slice (some ⟨W.heap.size, 0, none⟩) 1 1)).run Tryd.prog (W.alloc (.cells #[.int .u8 x] t)) = .ok (.string ⟨[c].toArray⟩) (W.alloc (.cells #[.int .u8 x] t)) := by
  subst h
  refine conv_row (d := [c]) rfl fun k hk => ?_
  have hk0 : k = 0 := by simp at hk; omega
  subst hk0
  rw [Lib.add_plain, Nat.zero_add, World.cell?_alloc_at _ _ _ _ rfl]
  rfl
/-- The lowest digits of a number. -/
def dlow : Nat → Nat → List UInt8
  | 0, _ => []
  | i + 1, n => dgt (n / 16 ^ i % 16) :: dlow i n
theorem dlow_len : ∀ i n, (dlow i n).length = i
  | 0, _ => rfl
  | i + 1, n => by rw [dlow, List.length_cons, dlow_len i n]
theorem dlow2 (n : Nat) (h : n < 256) : dlow 2 n = hx2 (UInt8.ofNat n) := by
  unfold hx2
  rw [ofNat_toNat h]
  show [dgt (n / 16 ^ 1 % 16), dgt (n / 16 ^ 0 % 16)] = _
  rw [show n / 16 ^ 1 % 16 = n / 16 by omega, show n / 16 ^ 0 % 16 = n % 16 by omega]
theorem dlow4 (n : Nat) (h : n < 65536) : dlow 4 n = hxL (un2 n) := by
  unfold hxL un2
  show [dgt (n / 16 ^ 3 % 16), dgt (n / 16 ^ 2 % 16), dgt (n / 16 ^ 1 % 16), dgt (n / 16 ^ 0 % 16)] = hx2 (UInt8.ofNat (n / 256)) ++ (hx2 (UInt8.ofNat (n % 256)) ++ [])
  unfold hx2
  rw [ofNat_toNat (by omega), ofNat_toNat (by omega)]
  rw [show n / 16 ^ 3 % 16 = n / 256 / 16 by omega, show n / 16 ^ 2 % 16 = n / 256 % 16 by omega, show n / 16 ^ 1 % 16 = n % 256 / 16 by omega, show n / 16 ^ 0 % 16 = n % 256 % 16 by omega]
  rfl
end Go.Proofs.YtggojafapieliabDoor
