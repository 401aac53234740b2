/-
  Filters of the document's answer: digits to the base 16 are taken apart.
-/
import Derived.Test.YtemegkdfenjefaaQj
import Derived.Test.YtemegkdfenjefaaRg
namespace Go.Proofs.Ytemegkdfenjefaa
open Go.RowKit
set_option maxRecDepth 100000

theorem rBlankK (c : UInt8) (n : Int) (h : n = (c.toNat : Int)) (w : World) :
    Calls Try.prog 39 #[.int .u8 n] w fun e w' => e = .returned (.bool (isBl c)) ∧ w' = w := by
  subst h; exact rBlank c w
theorem rHexK (c : UInt8) (n : Int) (h : n = (c.toNat : Int)) (w : World) :
    Calls Try.prog 40 #[.int .u8 n] w fun e w' => e = .returned (.int .i64 (hexV c)) ∧ w' = w := by
  subst h; exact rHex c w
/-- How many digits there were, and the last one. -/
def Half (p : Option Nat) (N X : Int) : Prop := (p = none → N % 2 = 0) ∧ (∀ x, p = some x → N % 2 = 1 ∧ X = (x : Int) ∧ x < 16)
set_option maxHeartbeats 1000000 in
theorem rUnhex (s : ByteArray) (k0 : Nat) (w : World) (hk0 : k0 ≤ s.size) (hs : s.size ≤ 100000) :
    Calls Try.prog 26 #[.string s, .int .i64 k0] w fun e w' => e = .returned (.tuple #[.string ⟨(hexTk (s.data.toList.drop k0) none [] k0).2.1.toArray⟩, .int .i64 ((hexTk (s.data.toList.drop k0) none [] k0).2.2 : Nat), .int .i64 (hexTk (s.data.toList.drop k0) none [] k0).1]) ∧ Below w.heap.size w w' := by
  generalize hR : hexTk (s.data.toList.drop k0) none [] k0 = R
  have HR0 := hid hR
  clear hR
  go_enter Try.func26, Try.ntmps26
  go_wp2
  go_loopw [1, 7, 8, 9] (fun av bv nv xv wr => ∃ (k : Nat) (p : Option Nat) (pre : List UInt8) (N X : Int), av = .int .i64 k ∧ k ≤ s.size ∧ nv = .int .i64 N ∧ xv = .int .i64 X ∧ 0 ≤ N ∧ N ≤ k ∧ Half p N X ∧ pre.length ≤ k ∧ hexTk (s.data.toList.drop k) p pre k = R ∧ Own8 wr w.heap.size bv pre ∧ Below w.heap.size w wr) (fun av _ _ _ _ => s.size - (intOf av).toNat)
  case atStart => exact ⟨k0, none, [], 0, 0, rfl, hk0, rfl, rfl, by omega, by omega, ⟨(fun _ => rfl), (fun _ h => by cases h)⟩, by simp, HR0.out, Own8.nil _ _, Below.refl _ _⟩
  case round =>
    clear HR0
    obtain ⟨k, p, pre, N, X, rfl, hk, rfl, rfl, hN0, hNk, hH, hpl, hR, hown, hb⟩ := hrel
    have hbs := hb.size
    have HR := hid hR
    have HH := hid hH
    clear hR hH
    by_cases hlt : k < s.size
    · have HS := hid (hexTk_step s k p pre hlt)
      have hlt' : (k : Int) < s.size := by omega
      have hc := s[k].toNat_lt
      cases b0 : (s[k] == 62)
      case true =>
        have B0 := hid b0
        have q0 : (s[k].toNat : Int) = 62 := by rw [eq_of_beq b0]; rfl
        have h1 := HR.out
        rw [HS.out, if_pos b0] at h1
        have HRE := hid h1
        clear b0 h1
        cases p with
        | none =>
          have hn2 := HH.out.1 rfl
          have hcv := own8_conv hown
          go_wp2
          go_ret3
          refine ⟨?_, hb⟩
          rw [← HRE.out]; simp [pend]
        | some x =>
          obtain ⟨hn2, rfl, hx16⟩ := HH.out.2 x rfl
          obtain ⟨y, q1, hy⟩ : ∃ y : UInt8, (y.toNat : Int) = 16 * (x : Int) ∧ pend (some x) = [y] := ⟨UInt8.ofNat (16 * x), by simp only [UInt8.toNat_ofNat']; omega, rfl⟩
          have HY := hid hy
          clear hy
          go_wp2_with (at_builtin; refine wpApp8 rfl (.tmp 24) (.tmp 28) rfl w.heap.size _ pre rfl hown _ [y] 1 1 rfl rfl ?cc (by omega) hbs ?_)
          case cc => first | exact one8 q1 | (unfold byteV; rw [q1])
          intro v1 w1 hown1 hk1
          have hcv := own8_conv hown1
          go_wp2
          go_ret3
          refine ⟨?_, hb.trans hk1.below⟩
          rw [← HRE.out, HY.out]; rfl
      case false =>
        have B0 := hid b0
        have q0 : ((s[k].toNat : Int) == 62) = false := by rw [← b0]; exact beq_u8 s[k] 62
        clear b0
        cases b1 : isBl s[k]
        case true =>
          have B1 := hid b1
          go_wp2_with (go_at_call 39; refine (rBlank s[k] _).mono ?_; rintro e w1 ⟨rfl, rfl⟩)
          go_roundw
          case rel =>
            refine ⟨k + 1, p, pre, N, X, by go_num, by omega, rfl, rfl, hN0, by omega, HH.out, by omega, ?_, hown, hb⟩
            have h1 := HR.out
            rw [HS.out, if_neg (by rw [B0.out]; simp), if_pos B1.out] at h1
            exact h1
          case measure => simp [intOf]; omega
        case false =>
          have B1 := hid b1
          by_cases hv : hexV s[k] < 0
          · go_wp2_with (first
              | (go_at_call 39; refine (rBlank s[k] _).mono ?_; rintro e w1 ⟨rfl, rfl⟩)
              | (go_at_call 40; refine (rHex s[k] _).mono ?_; rintro e w1 ⟨rfl, rfl⟩))
            go_ret3
            refine ⟨?_, hb⟩
            have h1 := HR.out
            rw [HS.out, if_neg (by rw [B0.out]; simp), if_neg (by rw [B1.out]; simp), if_pos hv] at h1
            rw [← h1]; rfl
          · have hvr := hexV_rng s[k]
            obtain ⟨d, hd⟩ : ∃ d : Nat, hexV s[k] = d := ⟨(hexV s[k]).toNat, by omega⟩
            have hd16 : d < 16 := by omega
            have HD := hid hd
            have HQ := hid (show (hexV s[k]).toNat = d by omega)
            clear hvr hv
            cases p with
            | none =>
              have hn2 := HH.out.1 rfl
              go_wp2_with (first
                | (go_at_call 39; refine (rBlank s[k] _).mono ?_; rintro e w1 ⟨rfl, rfl⟩)
                | (go_at_call 40; refine (rHex s[k] _).mono ?_; rintro e w1 ⟨rfl, rfl⟩))
              go_roundw
              case rel =>
                refine ⟨k + 1, some d, pre, N + 1, d, by go_num, by omega, rfl, rfl, by omega, by omega, ⟨(fun h => by cases h), (fun x hx => by cases hx; exact ⟨by omega, rfl, hd16⟩)⟩, by omega, ?_, hown, hb⟩
                have h1 := HR.out
                rw [HS.out, if_neg (by rw [B0.out]; simp), if_neg (by rw [B1.out]; simp), if_neg (by have := HD.out; omega), HQ.out] at h1
                exact h1
              case measure => simp [intOf]; omega
            | some x =>
              obtain ⟨hn2, rfl, hx16⟩ := HH.out.2 x rfl
              obtain ⟨y, q1, hy⟩ : ∃ y : UInt8, (y.toNat : Int) = 16 * (x : Int) + d ∧ UInt8.ofNat (16 * x + d) = y := ⟨UInt8.ofNat (16 * x + d), by simp only [UInt8.toNat_ofNat']; omega, rfl⟩
              have HY := hid hy
              clear hy
              go_wp2_with (first
                | (go_at_call 39; refine (rBlank s[k] _).mono ?_; rintro e w1 ⟨rfl, rfl⟩)
                | (go_at_call 40; refine (rHex s[k] _).mono ?_; rintro e w1 ⟨rfl, rfl⟩)
                | (at_builtin; refine wpApp8 rfl (.tmp 47) (.tmp 53) rfl w.heap.size _ pre rfl hown _ [y] 1 1 rfl rfl ?cc (by omega) hbs ?_))
              case cc => first | exact one8 q1 | (unfold byteV; rw [q1])
              intro v2 w2 hown2 hk2
              go_wp2
              go_roundw
              case rel =>
                refine ⟨k + 1, none, pre ++ [y], N + 1, d, by go_num, by omega, rfl, rfl, by omega, by omega, ⟨(fun _ => by omega), (fun x hx => by cases hx)⟩, by simp; omega, ?_, hown2, hb.trans hk2.below⟩
                have h1 := HR.out
                rw [HS.out, if_neg (by rw [B0.out]; simp), if_neg (by rw [B1.out]; simp), if_neg (by have := HD.out; omega)] at h1
                simp only [HQ.out, HY.out] at h1
                exact h1
              case measure => simp [intOf]; omega
    · have hke : k = s.size := by omega
      go_wp2
      go_ret3
      refine ⟨?_, hb⟩
      have h1 := HR.out
      rw [hke, hexTk_end] at h1
      rw [← h1]; rfl
end Go.Proofs.Ytemegkdfenjefaa
