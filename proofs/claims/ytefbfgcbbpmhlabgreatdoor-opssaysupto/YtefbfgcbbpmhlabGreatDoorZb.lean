/-
  Joined: Qu, Za, Zb.
-/
import Derived.Test.YtefbfgcbbpmhlabGreatDoorVs
import Derived.Test.YtefbfgcbbpmhlabGreatDoorRg
import Derived.Test.YtefbfgcbbpmhlabGreatDoorYx

/-
  Filters of the document's answer: digits to the base 16 are taken apart.
-/
namespace Go.Proofs.YtefbfgcbbpmhlabGreatDoor
open Go.RowKit
set_option maxRecDepth 100000

theorem rBlankK (c : UInt8) (n : Int) (h : n = (c.toNat : Int)) (w : World) :
    Calls Tryz.prog 129 #[.int .u8 n] w fun e w' => e = .returned (.bool (isBl c)) ∧ w' = w := by
  subst h; exact rBlank c w
theorem rHexK (c : UInt8) (n : Int) (h : n = (c.toNat : Int)) (w : World) :
    Calls Tryz.prog 258 #[.int .u8 n] w fun e w' => e = .returned (.int .i64 (hexV c)) ∧ w' = w := by
  subst h; exact rHex c w
/-- How many digits there were, and the last one. -/
def Half (p : Option Nat) (N X : Int) : Prop := (p = none → N % 2 = 0) ∧ (∀ x, p = some x → N % 2 = 1 ∧ X = (x : Int) ∧ x < 16)
set_option maxHeartbeats 1000000 in
theorem rUnhex (s : ByteArray) (k0 : Nat) (w : World) (hk0 : k0 ≤ s.size) (hs : s.size ≤ 100000) :
    Calls Tryz.prog 188 #[.string s, .int .i64 k0] w fun e w' => e = .returned (.tuple #[.string ⟨(hexTk (s.data.toList.drop k0) none [] k0).2.1.toArray⟩, .int .i64 ((hexTk (s.data.toList.drop k0) none [] k0).2.2 : Nat), .int .i64 (hexTk (s.data.toList.drop k0) none [] k0).1]) ∧ Below w.heap.size w w' := by
  generalize hR : hexTk (s.data.toList.drop k0) none [] k0 = R
  have HR0 := hid hR
  clear hR
  go_enter Tryz.func188, Tryz.ntmps188
  go_wp2
  go_loopw [1, 7, 8, 9] (fun av bv nv xv wr => ∃ (k : Nat) (p : Option Nat) (pre : List UInt8) (N X : Int), av = .int .i64 k ∧ k ≤ s.size ∧ nv = .int .i64 N ∧ xv = .int .i64 X ∧ 0 ≤ N ∧ N ≤ k ∧ Half p N X ∧ pre.length ≤ k ∧ hexTk (s.data.toList.drop k) p pre k = R ∧ Own8 wr w.heap.size bv pre ∧ Below w.heap.size w wr) (fun av _ _ _ _ => s.size - (intOf av).toNat)
  case atStart => exact ⟨k0, none, [], 0, 0, rfl, hk0, rfl, rfl, by omega, by omega, ⟨(fun _ => rfl), (fun _ h => by cases h)⟩, by simp, HR0.out, Own8.nil _ _, Below.refl _ _⟩
  case round =>
    clear HR0
    obtain ⟨k, p, pre, N, X, rfl, hk, rfl, rfl, hN0, hNk, hH, hpl, hR, hown, hb⟩ := hrel
    have hbs := hb.size
    have HR := hid hR
    have HH := hid hH
    clear hR hH
    by_cases hlt : k < s.size
    · have HS := hid (hexTk_step s k p pre hlt)
      have hlt' : (k : Int) < s.size := by omega
      have hc := s[k].toNat_lt
      cases b0 : (s[k] == 62)
      case true =>
        have B0 := hid b0
        have q0 : (s[k].toNat : Int) = 62 := by rw [eq_of_beq b0]; rfl
        have h1 := HR.out
        rw [HS.out, if_pos b0] at h1
        have HRE := hid h1
        clear b0 h1
        cases p with
        | none =>
          have hn2 := HH.out.1 rfl
          have hcv := own8_conv hown
          go_wp2
          go_ret3
          refine ⟨?_, hb⟩
          rw [← HRE.out]; simp [pend]
        | some x =>
          obtain ⟨hn2, rfl, hx16⟩ := HH.out.2 x rfl
          obtain ⟨y, q1, hy⟩ : ∃ y : UInt8, (y.toNat : Int) = 16 * (x : Int) ∧ pend (some x) = [y] := ⟨UInt8.ofNat (16 * x), by simp only [UInt8.toNat_ofNat']; omega, rfl⟩
          have HY := hid hy
          clear hy
          go_wp2_with (at_builtin; refine wpApp8 rfl (.tmp 24) (.tmp 28) rfl w.heap.size _ pre rfl hown _ [y] 1 1 rfl rfl ?cc (by omega) hbs ?_)
          case cc => first | exact one8 q1 | (unfold byteV; rw [q1])
          intro v1 w1 hown1 hk1
          have hcv := own8_conv hown1
          go_wp2
          go_ret3
          refine ⟨?_, hb.trans hk1.below⟩
          rw [← HRE.out, HY.out]; rfl
      case false =>
        have B0 := hid b0
        have q0 : ((s[k].toNat : Int) == 62) = false := by rw [← b0]; exact beq_u8 s[k] 62
        clear b0
        cases b1 : isBl s[k]
        case true =>
          have B1 := hid b1
          go_wp2_with (go_at_call 129; refine (rBlank s[k] _).mono ?_; rintro e w1 ⟨rfl, rfl⟩)
          go_roundw
          case rel =>
            refine ⟨k + 1, p, pre, N, X, by go_num, by omega, rfl, rfl, hN0, by omega, HH.out, by omega, ?_, hown, hb⟩
            have h1 := HR.out
            rw [HS.out, if_neg (by rw [B0.out]; simp), if_pos B1.out] at h1
            exact h1
          case measure => simp [intOf]; omega
        case false =>
          have B1 := hid b1
          by_cases hv : hexV s[k] < 0
          · go_wp2_with (first
              | (go_at_call 129; refine (rBlank s[k] _).mono ?_; rintro e w1 ⟨rfl, rfl⟩)
              | (go_at_call 258; refine (rHex s[k] _).mono ?_; rintro e w1 ⟨rfl, rfl⟩))
            go_ret3
            refine ⟨?_, hb⟩
            have h1 := HR.out
            rw [HS.out, if_neg (by rw [B0.out]; simp), if_neg (by rw [B1.out]; simp), if_pos hv] at h1
            rw [← h1]; rfl
          · have hvr := hexV_rng s[k]
            obtain ⟨d, hd⟩ : ∃ d : Nat, hexV s[k] = d := ⟨(hexV s[k]).toNat, by omega⟩
            have hd16 : d < 16 := by omega
            have HD := hid hd
            have HQ := hid (show (hexV s[k]).toNat = d by omega)
            clear hvr hv
            cases p with
            | none =>
              have hn2 := HH.out.1 rfl
              go_wp2_with (first
                | (go_at_call 129; refine (rBlank s[k] _).mono ?_; rintro e w1 ⟨rfl, rfl⟩)
                | (go_at_call 258; refine (rHex s[k] _).mono ?_; rintro e w1 ⟨rfl, rfl⟩))
              go_roundw
              case rel =>
                refine ⟨k + 1, some d, pre, N + 1, d, by go_num, by omega, rfl, rfl, by omega, by omega, ⟨(fun h => by cases h), (fun x hx => by cases hx; exact ⟨by omega, rfl, hd16⟩)⟩, by omega, ?_, hown, hb⟩
                have h1 := HR.out
                rw [HS.out, if_neg (by rw [B0.out]; simp), if_neg (by rw [B1.out]; simp), if_neg (by have := HD.out; omega), HQ.out] at h1
                exact h1
              case measure => simp [intOf]; omega
            | some x =>
              obtain ⟨hn2, rfl, hx16⟩ := HH.out.2 x rfl
              obtain ⟨y, q1, hy⟩ : ∃ y : UInt8, (y.toNat : Int) = 16 * (x : Int) + d ∧ UInt8.ofNat (16 * x + d) = y := ⟨UInt8.ofNat (16 * x + d), by simp only [UInt8.toNat_ofNat']; omega, rfl⟩
              have HY := hid hy
              clear hy
              go_wp2_with (first
                | (go_at_call 129; refine (rBlank s[k] _).mono ?_; rintro e w1 ⟨rfl, rfl⟩)
                | (go_at_call 258; refine (rHex s[k] _).mono ?_; rintro e w1 ⟨rfl, rfl⟩)
                | (at_builtin; refine wpApp8 rfl (.tmp 47) (.tmp 53) rfl w.heap.size _ pre rfl hown _ [y] 1 1 rfl rfl ?cc (by omega) hbs ?_))
              case cc => first | exact one8 q1 | (unfold byteV; rw [q1])
              intro v2 w2 hown2 hk2
              go_wp2
              go_roundw
              case rel =>
                refine ⟨k + 1, none, pre ++ [y], N + 1, d, by go_num, by omega, rfl, rfl, by omega, by omega, ⟨(fun _ => by omega), (fun x hx => by cases hx)⟩, by simp; omega, ?_, hown2, hb.trans hk2.below⟩
                have h1 := HR.out
                rw [HS.out, if_neg (by rw [B0.out]; simp), if_neg (by rw [B1.out]; simp), if_neg (by have := HD.out; omega)] at h1
                simp only [HQ.out, HY.out] at h1
                exact h1
              case measure => simp [intOf]; omega
    · have hke : k = s.size := by omega
      go_wp2
      go_ret3
      refine ⟨?_, hb⟩
      have h1 := HR.out
      rw [hke, hexTk_end] at h1
      rw [← h1]; rfl
end Go.Proofs.YtefbfgcbbpmhlabGreatDoor

/-
  Reading, the document's answer: names.
-/
namespace Go.Proofs.YtefbfgcbbpmhlabGreatDoor
open Go.RowKit
set_option maxRecDepth 100000

theorem rSkipN (s : ByteArray) (k : Nat) (w : World) (hk : k ≤ s.size) (hs : s.size ≤ 100000) :
    Calls Tryz.prog 78 #[.string s, .int .i64 k] w fun e w' => e = .returned (.int .i64 (skipP s k : Nat)) ∧ w' = w := by
  have q := rSkip s k w (by unfold maxLen; omega)
  rw [place_in hk] at q; exact q
theorem rWordN (s : ByteArray) (k : Nat) (w : World) (hk : k ≤ s.size) (hs : s.size ≤ 100000) :
    Calls Tryz.prog 79 #[.string s, .int .i64 k] w fun e w' => e = .returned (.string (wordP s k)) ∧ w' = w := by
  have q := rWord s k w (by unfold maxLen; omega)
  rw [place_in hk] at q; exact q
/-- A name that is read: the bytes, where it ends, an error. -/
def rName (s : ByteArray) (k : Nat) : ByteArray × Nat × Int := match nameR (wordP s (k + 1)).data.toList with
  | none => (eB, 0, 4)
  | some b => (⟨b.toArray⟩, k + 1 + (wordP s (k + 1)).size, 0)
set_option maxHeartbeats 2000000 in
theorem rReadName (s : ByteArray) (k : Nat) (w : World) (hk : k < s.size) (hs : s.size ≤ 100000) :
    Calls Tryz.prog 185 #[.string s, .int .i64 k] w fun e w' => e = .returned (.tuple #[.string (rName s k).1, .int .i64 ((rName s k).2.1 : Nat), .int .i64 (rName s k).2.2]) ∧ Below w.heap.size w w' := by
  have hz := (wordP_size (s := s) (k := k + 1) (by omega)).2
  have HW := hid (fun (w : World) => show Calls Tryz.prog 79 #[.string s, .int .i64 ((k : Int) + 1)] w _ from rWordN s (k + 1) w (by omega) hs)
  unfold rName
  generalize wordP s (k + 1) = ww at *
  obtain ⟨T, hT⟩ : ∃ T : ByteArray × Nat × Int, (match nameR ww.data.toList with | none => (eB, 0, 4) | some b => (⟨b.toArray⟩, k + 1 + ww.size, 0)) = T := ⟨_, rfl⟩
  rw [hT]
  have HT := hid hT
  clear hT
  obtain ⟨R, hR⟩ : ∃ R, nameL ww.data.toList = R := ⟨_, rfl⟩
  have HR := hid hR
  clear hR
  go_enter Tryz.func185, Tryz.ntmps185
  go_wp2_with (go_at_call 79; go_must (refine (HW.out _).mono ?_); rintro e w1 ⟨rfl, rfl⟩)
  clear HW
  go_loopw [9, 10] (fun bv iv wr => ∃ (i : Nat) (pre : List UInt8), iv = .int .i64 i ∧ i ≤ ww.size ∧ pre.length ≤ i ∧ Hid ((nameL (ww.data.toList.drop i)).map (pre ++ ·) = R) ∧ Own8 wr w1.heap.size bv pre ∧ Below w1.heap.size w1 wr) (fun _ iv _ => ww.size - (intOf iv).toNat)
  case atStart => exact ⟨0, [], rfl, by omega, by simp, hid (by simpa using HR.out), Own8.nil _ _, Below.refl _ _⟩
  case round =>
    obtain ⟨i, pre, rfl, hi, hpl, HN, hown, hb⟩ := hrel
    have hbs := hb.size
    by_cases hlt : i < ww.size
    · have hlt' : (i : Int) < ww.size := by omega
      have hc := ww[i].toNat_lt
      have HD := hid (drop_at ww i hlt)
      by_cases h35 : ww[i] = 35
      · have q35 : (ww[i].toNat : Int) = 35 := by rw [h35]; rfl
        have H35 := hid h35
        clear h35
        by_cases h2 : i + 2 < ww.size
        · have h2' : ¬ (ww.size : Int) ≤ (i : Int) + 2 := by omega
          have h1' : (i : Int) + 1 < ww.size := by omega
          have h2'' : (i : Int) + 2 < ww.size := by omega
          have HD1 := hid (drop_at ww (i + 1) (by omega))
          have HD2 := hid (drop_at ww (i + 2) h2)
          have hx := ww[i + 1].toNat_lt
          have hy := ww[i + 2].toNat_lt
          have HE := hid (show (nameL (ww.data.toList.drop i)) = if hexV ww[i + 1] < 0 ∨ hexV ww[i + 2] < 0 then none else (nameL (ww.data.toList.drop (i + 3))).map (UInt8.ofNat (16 * (hexV ww[i + 1]).toNat + (hexV ww[i + 2]).toNat) :: ·) by
            rw [HD.out, HD1.out, HD2.out, H35.out, nameL_pair])
          by_cases hbad : hexV ww[i + 1] < 0 ∨ hexV ww[i + 2] < 0
          · have HTE := hid (show (eB, 0, 4) = T by rw [← HT.out, nameR_none (by rw [HR.out, ← HN.out, HE.out, if_pos hbad]; rfl)])
            have hb2 : hexV ww[i + 1] < 0 ∨ (¬ hexV ww[i + 1] < 0 ∧ hexV ww[i + 2] < 0) := by omega
            clear hbad
            rcases hb2 with h5 | ⟨h5, h6⟩
            all_goals
              go_wp2_with (go_at_call 258; refine (rHex _ _).mono ?_; rintro e w2 ⟨rfl, rfl⟩)
              go_ret3
              refine ⟨?_, hb⟩
              rw [← HTE.out]; rfl
          · have hvx := hexV_rng ww[i + 1]
            have hvy := hexV_rng ww[i + 2]
            obtain ⟨a, ha⟩ : ∃ a : Nat, hexV ww[i + 1] = a := ⟨(hexV ww[i + 1]).toNat, by omega⟩
            obtain ⟨c, hc⟩ : ∃ c : Nat, hexV ww[i + 2] = c := ⟨(hexV ww[i + 2]).toNat, by omega⟩
            have ha16 : a < 16 := by omega
            have hc16 : c < 16 := by omega
            obtain ⟨y, q1, hy⟩ : ∃ y : UInt8, (y.toNat : Int) = 16 * (a : Int) + c ∧ UInt8.ofNat (16 * a + c) = y := ⟨UInt8.ofNat (16 * a + c), by simp only [UInt8.toNat_ofNat']; omega, rfl⟩
            have HNX := hid (show (nameL (ww.data.toList.drop (i + 3))).map ((pre ++ [y]) ++ ·) = R by
              rw [← HN.out, HE.out, if_neg hbad, ha, hc, Int.toNat_natCast, Int.toNat_natCast, hy, map_pre])
            clear hy hbad HE HN hvx hvy
            go_wp2_with (first
              | (go_at_call 258; refine (rHex _ _).mono ?_; rintro e w2 ⟨rfl, rfl⟩)
              | (at_builtin; refine wpApp8 rfl (.tmp 54) (.tmp 60) rfl w1.heap.size _ pre rfl hown _ [y] 1 1 rfl rfl ?cc (by omega) hbs ?_))
            case cc => first | exact one8 q1 | (unfold byteV; rw [q1])
            intro v2 w2 hown2 hk2
            go_wp2
            go_roundw
            case rel => exact ⟨i + 3, pre ++ [y], by go_num, by omega, by simp; omega, hid HNX.out, hown2, hb.trans hk2.below⟩
            case measure => simp [intOf]; omega
        · have h2' : (ww.size : Int) ≤ (i : Int) + 2 := by omega
          have HTE := hid (show (eB, 0, 4) = T by
            rw [← HT.out, nameR_none (by
              rw [HR.out, ← HN.out, HD.out, H35.out]
              by_cases h1 : i + 1 < ww.size
              · rw [drop_at ww (i + 1) h1, List.drop_eq_nil_of_le (by simp; omega), nameL_short2]; rfl
              · rw [List.drop_eq_nil_of_le (by simp; omega), nameL_short1]; rfl)])
          go_wp2
          go_ret3
          refine ⟨?_, hb⟩
          rw [← HTE.out]; rfl
      · have q35 : ((ww[i].toNat : Int) == 35) = false := ne_u8 (k := 35) (by omega) h35
        have HNX := hid (show (nameL (ww.data.toList.drop (i + 1))).map ((pre ++ [ww[i]]) ++ ·) = R by
          rw [← HN.out, HD.out, nameL_plain (by simpa using h35), map_pre])
        clear h35 HN HD
        go_wp2_with (at_builtin; refine wpApp8 rfl (.tmp 64) (.tmp 68) rfl w1.heap.size _ pre rfl hown _ [ww[i]] 1 1 rfl rfl ?cc (by omega) hbs ?_)
        case cc => first | exact one8 rfl | rfl
        intro v2 w2 hown2 hk2
        go_wp2
        go_roundw
        case rel => exact ⟨i + 1, pre ++ [ww[i]], by go_num, by omega, by simp; omega, hid HNX.out, hown2, hb.trans hk2.below⟩
        case measure => simp [intOf]; omega
    · have hie : i = ww.size := by omega
      have hlt' : ¬ (i : Int) < ww.size := by omega
      have hnl : nameL ww.data.toList = some pre := by
        rw [HR.out, ← HN.out, List.drop_eq_nil_of_le (by simp; omega), nameL_nil]; simp
      have hcv := own8_conv hown
      have hnm := fun (w : World) => rNameMay (⟨pre.toArray⟩ : ByteArray) w (by unfold maxLen; show pre.toArray.size ≤ _; simp; omega)
      cases hm : nmOk (⟨pre.toArray⟩ : ByteArray)
      · have HTE := hid (show (eB, 0, 4) = T by
          rw [← HT.out, show nameR ww.data.toList = none by unfold nameR; rw [hnl]; simp [hm]])
        rw [hm] at hnm
        clear hm hnl HN
        go_wp2_with (go_at_call 193; refine (hnm _).mono ?_; rintro e w2 ⟨rfl, rfl⟩)
        go_ret3
        refine ⟨?_, hb⟩
        rw [← HTE.out]; rfl
      · have HTE := hid (show (⟨pre.toArray⟩, k + 1 + ww.size, 0) = T by
          rw [← HT.out, show nameR ww.data.toList = some pre by unfold nameR; rw [hnl]; simp [hm]])
        rw [hm] at hnm
        clear hm hnl HN
        go_wp2_with (go_at_call 193; refine (hnm _).mono ?_; rintro e w2 ⟨rfl, rfl⟩)
        go_ret3
        refine ⟨?_, hb⟩
        rw [← HTE.out]
        simp
end Go.Proofs.YtefbfgcbbpmhlabGreatDoor

/-
  Reading, the document's answer: references.
-/
namespace Go.Proofs.YtefbfgcbbpmhlabGreatDoor
open Go.RowKit
set_option maxRecDepth 100000

theorem objL_len {l : List UInt8} (h : l.length < 1 ∨ 2 < l.length) : objL l = 0 := by
  match l, h with
  | [], _ => rfl
  | [_], h => simp at h
  | [_, _], h => simp at h
  | _ :: _ :: _ :: _, _ => rfl
theorem objL_zero {l : List UInt8} (h : l[0]? = some 48) : objL l = 0 := by
  match l, h with
  | [], h => simp at h
  | [a], h => simp at h; subst h; rfl
  | [a, b], h => simp at h; subst h; exact (if_neg (fun q => absurd q.1 (by decide)) : (if 49 ≤ (48 : UInt8).toNat ∧ (48 : UInt8).toNat ≤ 57 ∧ 48 ≤ b.toNat ∧ b.toNat ≤ 57 ∧ ((48 : UInt8).toNat - 48) * 10 + (b.toNat - 48) ≤ 60 then ((48 : UInt8).toNat - 48) * 10 + (b.toNat - 48) else 0) = 0)
  | _ :: _ :: _ :: _, _ => rfl
theorem objL_bad {l : List UInt8} {i : Nat} {c : UInt8} (h : l[i]? = some c) (hc : c.toNat < 48 ∨ 57 < c.toNat) : objL l = 0 := by
  match l, i, h with
  | [], _, h => simp at h
  | [a], 0, h => simp at h; subst h; exact if_neg (by omega)
  | [a], _ + 1, h => simp at h
  | [a, b], 0, h => simp at h; subst h; exact if_neg (by omega)
  | [a, b], 1, h => simp at h; subst h; exact if_neg (by omega)
  | [a, b], _ + 2, h => simp at h
  | _ :: _ :: _ :: _, _, _ => rfl
theorem objL_good {l : List UInt8} (h : l.length = 1 ∨ l.length = 2) (h0 : l[0]? ≠ some 48) (hd : ∀ c ∈ l, 48 ≤ c.toNat ∧ c.toNat ≤ 57) : objL l = if valD 0 l ≤ 60 then valD 0 l else 0 := by
  match l, h with
  | [], h => simp at h
  | [a], _ =>
    have ha := hd a (by simp)
    have h1 : a.toNat ≠ 48 := fun e => h0 (by simp; exact UInt8.toNat_inj.1 e)
    have e : valD 0 [a] = a.toNat - 48 := by
      show 10 * 0 + (a.toNat - 48) = _
      omega
    rw [e, if_pos (by omega)]
    exact if_pos (by omega)
  | [a, b], _ =>
    have ha := hd a (by simp)
    have hb := hd b (by simp)
    have h1 : a.toNat ≠ 48 := fun e => h0 (by simp; exact UInt8.toNat_inj.1 e)
    have e : valD 0 [a, b] = (a.toNat - 48) * 10 + (b.toNat - 48) := by
      show 10 * (10 * 0 + (a.toNat - 48)) + (b.toNat - 48) = _
      generalize a.toNat - 48 = x
      generalize b.toNat - 48 = y
      omega
    rw [e]
    by_cases h6 : (a.toNat - 48) * 10 + (b.toNat - 48) ≤ 60
    · rw [if_pos h6]; exact if_pos (by omega)
    · rw [if_neg h6]; exact if_neg (by omega)
  | _ :: _ :: _ :: _, h => simp at h
theorem valD_snoc (l : List UInt8) (c : UInt8) : ∀ acc, valD acc (l ++ [c]) = 10 * valD acc l + (c.toNat - 48) := by
  induction l with
  | nil => intro acc; rfl
  | cons x l ih => intro acc; exact ih _
/-- What a reference is: its number, and where it ends; 0: none. -/
def refO (s W : ByteArray) (k : Nat) : Nat × Nat := if objL W.data.toList ≠ 0 ∧ (refP s k).isSome = true then (objL W.data.toList, (refP s k).getD k) else (0, 0)
theorem isZero (W : ByteArray) : (W.toList == [48]) = decide (W = w0) := by rw [← word_beq, show w0.toList = [48] by rw [ByteArray.toList_eq]; rfl]
theorem isBigR (W : ByteArray) : (W.toList == [82]) = decide (W = wR) := by rw [← word_beq, show wR.toList = [82] by rw [ByteArray.toList_eq]; rfl]
theorem refO_no {s W : ByteArray} {k : Nat} (h : objL W.data.toList = 0) : refO s W k = (0, 0) := by unfold refO; rw [if_neg (by simp [h])]
theorem refO_none {s W : ByteArray} {k : Nat} (h : refP s k = none) : refO s W k = (0, 0) := by unfold refO; rw [if_neg (by simp [h])]
theorem rSkipP (s : ByteArray) (a : Int) (k : Nat) (w : World) (ha : a = k) (hk : k ≤ s.size) (hs : s.size ≤ 100000) :
    Calls Tryz.prog 78 #[.string s, .int .i64 a] w fun e w' => e = .returned (.int .i64 (skipP s k : Nat)) ∧ w' = w := by subst ha; exact rSkipN s k w hk hs
theorem take_next {W : ByteArray} {i : Nat} (h : i < W.size) : W.data.toList.take (i + 1) = W.data.toList.take i ++ [W[i]] := by
  rw [List.take_add_one, rdAt_get h]; rfl
set_option maxHeartbeats 2000000 in
theorem rReadRef (s W : ByteArray) (k : Nat) (w : World) (hk : k ≤ s.size) (hs : s.size ≤ 100000) (hW : W.size ≤ 100000) :
    Calls Tryz.prog 190 #[.string s, .string W, .int .i64 k] w fun e w' => e = .returned (.tuple #[.int .i64 ((refO s W k).1 : Nat), .int .i64 ((refO s W k).2 : Nat)]) ∧ w' = w := by
  obtain ⟨T, hT⟩ : ∃ T, refO s W k = T := ⟨_, rfl⟩
  rw [hT]
  have HT := hid hT
  clear hT
  have hlen : W.data.toList.length = W.size := by simp
  by_cases hsz : W.size < 1 ∨ 2 < W.size
  · have HTE := hid (show (0, 0) = T by rw [← HT.out, refO_no (objL_len (by omega))])
    have h1 : (W.size : Int) < 1 ∨ (¬ (W.size : Int) < 1 ∧ (2 : Int) < W.size) := by omega
    clear hsz
    rcases h1 with h1 | ⟨h1, h2⟩
    all_goals
      go_enter Tryz.func190, Tryz.ntmps190
      go_wp2
      go_ret2
      exact ⟨by rw [← HTE.out]; rfl, rfl⟩
  have h1 : ¬ (W.size : Int) < 1 := by omega
  have h2 : ¬ (2 : Int) < W.size := by omega
  have h0l : 0 < W.size := by omega
  have h0i : (0 : Int) < W.size := by omega
  by_cases h48 : W[0] = 48
  · have HTE := hid (show (0, 0) = T by rw [← HT.out, refO_no (objL_zero (by rw [rdAt_get h0l, h48]))])
    have q48 : (W[0].toNat : Int) = 48 := by rw [h48]; rfl
    clear h48
    go_enter Tryz.func190, Tryz.ntmps190
    go_wp2
    go_ret2
    exact ⟨by rw [← HTE.out]; rfl, rfl⟩
  have q48 : ((W[0].toNat : Int) == 48) = false := ne_u8 (k := 48) (by omega) h48
  have H48 := hid h48
  clear h48
  go_enter Tryz.func190, Tryz.ntmps190
  go_wp2
  go_loopw [8, 9] (fun nv iv wr => ∃ (i n : Nat), iv = .int .i64 i ∧ nv = .int .i64 n ∧ i ≤ W.size ∧ n < 100 ∧ (i ≤ 1 → n < 10) ∧ (i = 0 → n = 0) ∧ Hid (n = valD 0 (W.data.toList.take i) ∧ ∀ c ∈ W.data.toList.take i, 48 ≤ c.toNat ∧ c.toNat ≤ 57) ∧ wr = w) (fun _ iv _ => W.size - (intOf iv).toNat)
  case atStart => exact ⟨0, 0, rfl, rfl, by omega, by omega, by omega, by omega, hid ⟨rfl, by simp⟩, rfl⟩
  case round =>
    obtain ⟨i, n, rfl, rfl, hi, hn, hn1, hn0, HV, rfl⟩ := hrel
    by_cases hlt : i < W.size
    · have hlt' : (i : Int) < W.size := by omega
      have hc := W[i].toNat_lt
      by_cases hbad : W[i].toNat < 48 ∨ 57 < W[i].toNat
      · have HTE := hid (show (0, 0) = T by rw [← HT.out, refO_no (objL_bad (rdAt_get hlt) hbad)])
        have hb2 : (W[i].toNat : Int) < 48 ∨ (¬ (W[i].toNat : Int) < 48 ∧ (57 : Int) < W[i].toNat) := by omega
        clear hbad
        rcases hb2 with h5 | ⟨h5, h6⟩
        all_goals
          go_wp2
          go_ret2
          exact ⟨by rw [← HTE.out]; rfl, rfl⟩
      · have h5 : ¬ (W[i].toNat : Int) < 48 := by omega
        have h6 : ¬ (57 : Int) < W[i].toNat := by omega
        obtain ⟨x, hx⟩ : ∃ x : Nat, W[i].toNat = x + 48 := ⟨W[i].toNat - 48, by omega⟩
        have hx9 : x ≤ 9 := by omega
        have HV2 := hid (show 10 * n + x = valD 0 (W.data.toList.take (i + 1)) ∧ ∀ c ∈ W.data.toList.take (i + 1), 48 ≤ c.toNat ∧ c.toNat ≤ 57 by
          rw [take_next hlt, valD_snoc, ← HV.out.1]
          refine ⟨by omega, fun c hc => ?_⟩
          rcases List.mem_append.1 hc with h | h
          · exact HV.out.2 c h
          · rw [List.mem_singleton.1 h]; omega)
        have e8 : IntKind.u8.wrap ((W[i].toNat : Int) - 48) = (x : Int) := by
          rw [hx]; simp [IntKind.wrap, IntKind.bits, IntKind.signed]; omega
        clear hbad HV
        go_wp2
        refine ⟨⟨i + 1, 10 * n + x, by go_num, by go_num, by omega, by omega, by omega, by omega, hid HV2.out, trivial⟩, by simp [intOf]; omega⟩
    · have hlt' : ¬ (i : Int) < W.size := by omega
      obtain ⟨hv, hd⟩ := HV.out
      rw [List.take_of_length_le (by omega)] at hv hd
      have hO := objL_good (l := W.data.toList) (by omega) (by rw [rdAt_get h0l]; simpa using H48.out) hd
      rw [← hv] at hO
      have hn1' : 1 ≤ n := by
        obtain ⟨r, hr⟩ := cons_of h0l
        have h3 := hd W[0] (by rw [hr]; simp)
        have h4 : W[0].toNat ≠ 48 := fun e => H48.out (UInt8.toNat_inj.1 e)
        rw [hr] at hv
        have h5 : 10 * 0 + (W[0].toNat - 48) ≤ valD (10 * 0 + (W[0].toNat - 48)) r := valD_le _ _
        have h6 : n = valD (10 * 0 + (W[0].toNat - 48)) r := hv
        omega
      have HO := hid hO
      clear hv hd hO HV hn1 hn0
      have hj1 := (skipP_le hk).2
      have HRP := hid (show refP s k = if wordP s (skipP s k) = w0 then (if wordP s (skipP s (skipP s k + 1)) = wR then some (skipP s (skipP s k + 1) + 1) else none) else none from rfl)
      have h0w := yWordLe hj1
      have hml : s.size ≤ maxLen := by unfold maxLen; omega
      have e1 : skipP s (place s (k : Int)) = skipP s k := by rw [place_in hk]
      have e3 : wordP s (place s (skipP s k : Int)) = wordP s (skipP s k) := by rw [place_in hj1]
      generalize skipP s k = j1 at *
      generalize wordP s j1 = W1 at *
      by_cases h60 : 60 < n
      · have h60' : (60 : Int) < n := by omega
        have HTE := hid (show (0, 0) = T by rw [← HT.out, refO_no (by rw [HO.out, if_neg (by omega)])])
        go_wp2_with (first
          | (go_at_call 78; refine (rSkip s _ _ hml).mono ?_; rintro e w1 ⟨rfl, rfl⟩)
          | (go_at_call 79; refine (rWord s _ _ hml).mono ?_; rintro e w1 ⟨rfl, rfl⟩))
        go_ret2
        exact ⟨by rw [← HTE.out]; rfl, rfl⟩
      have h60' : ¬ (60 : Int) < n := by omega
      by_cases hw1 : W1 = w0
      · have z1 := (isZero W1).trans (decide_eq_true hw1)
        have hj2 : j1 + 1 ≤ s.size := by rw [hw1] at h0w; have : w0.size = 1 := rfl; omega
        have e2 : skipP s (place s ((j1 : Int) + 1)) = skipP s (j1 + 1) := by rw [show (j1 : Int) + 1 = ((j1 + 1 : Nat) : Int) by omega, place_in hj2]
        have hj3 := (skipP_le hj2).2
        have e4 : wordP s (place s (skipP s (j1 + 1) : Int)) = wordP s (skipP s (j1 + 1)) := by rw [place_in hj3]
        have HRP2 := hid (show refP s k = if wordP s (skipP s (j1 + 1)) = wR then some (skipP s (j1 + 1) + 1) else none by rw [HRP.out, if_pos hw1])
        clear HRP hw1
        generalize skipP s (j1 + 1) = j2 at *
        generalize wordP s j2 = W2 at *
        by_cases hw2 : W2 = wR
        · have z2 := (isBigR W2).trans (decide_eq_true hw2)
          have HTE := hid (show (n, j2 + 1) = T by
            rw [← HT.out]; unfold refO; rw [HRP2.out, if_pos hw2, HO.out, if_pos (show n ≤ 60 by omega), if_pos ⟨by omega, rfl⟩]; rfl)
          clear hw2
          go_wp2_with (first
            | (go_at_call 78; refine (rSkip s _ _ hml).mono ?_; rintro e w1 ⟨rfl, rfl⟩)
            | (go_at_call 79; refine (rWord s _ _ hml).mono ?_; rintro e w1 ⟨rfl, rfl⟩))
          go_ret2
          exact ⟨by rw [← HTE.out]; rfl, rfl⟩
        · have z2 := (isBigR W2).trans (decide_eq_false hw2)
          have HTE := hid (show (0, 0) = T by rw [← HT.out, refO_none (by rw [HRP2.out, if_neg hw2])])
          clear hw2
          go_wp2_with (first
            | (go_at_call 78; refine (rSkip s _ _ hml).mono ?_; rintro e w1 ⟨rfl, rfl⟩)
            | (go_at_call 79; refine (rWord s _ _ hml).mono ?_; rintro e w1 ⟨rfl, rfl⟩))
          go_ret2
          exact ⟨by rw [← HTE.out]; rfl, rfl⟩
      · have z1 := (isZero W1).trans (decide_eq_false hw1)
        have HTE := hid (show (0, 0) = T by rw [← HT.out, refO_none (by rw [HRP.out, if_neg hw1])])
        clear hw1
        go_wp2_with (first
          | (go_at_call 78; refine (rSkip s _ _ hml).mono ?_; rintro e w1 ⟨rfl, rfl⟩)
          | (go_at_call 79; refine (rWord s _ _ hml).mono ?_; rintro e w1 ⟨rfl, rfl⟩))
        go_ret2
        exact ⟨by rw [← HTE.out]; rfl, rfl⟩
end Go.Proofs.YtefbfgcbbpmhlabGreatDoor
