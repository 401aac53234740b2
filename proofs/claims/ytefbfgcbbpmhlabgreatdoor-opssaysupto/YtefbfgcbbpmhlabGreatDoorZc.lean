/-
  Reading, the document's answer: strings in brackets.
-/
import Derived.Test.YtefbfgcbbpmhlabGreatDoorZb
namespace Go.Proofs.YtefbfgcbbpmhlabGreatDoor
open Go.RowKit
set_option maxRecDepth 100000

theorem u8_toNat_ne {c : UInt8} {k : Nat} (h : ((c.toNat : Int) == (k : Int)) = false) : c.toNat ≠ k := by
  intro e; rw [e] at h; simp at h
/-- Each byte that stands for another one. -/
theorem escL_at (s : ByteArray) (j : Nat) (h : j < s.size) : escL (s.data.toList.drop j) = if isOct s[j] then some ([UInt8.ofNat (octV 3 (s.data.toList.drop j) 0 % 256)], octN 3 (s.data.toList.drop j))
    else if s[j] == 110 then some ([10], 1) else if s[j] == 114 then some ([13], 1) else if s[j] == 116 then some ([9], 1) else if s[j] == 98 then some ([8], 1) else if s[j] == 102 then some ([12], 1)
    else if s[j] == 10 then some ([], 1) else if s[j] == 13 then some ([], if s.data.toList[j + 1]? = some 10 then 2 else 1) else some ([s[j]], 1) := by
  rw [drop_at s j h]
  have e : (s.data.toList.drop (j + 1)).head? = s.data.toList[j + 1]? := by simp
  rw [escL_cons, e]
theorem litT_esc {s : ByteArray} {k deep : Nat} {pre x : List UInt8} {m : Nat} (h : k < s.size) (h92 : s[k] = 92) (he : escL (s.data.toList.drop (k + 1)) = some (x, m)) : litT (s.data.toList.drop k) deep pre k = litT (s.data.toList.drop (k + 1 + m)) deep (pre ++ x) (k + 1 + m) := by
  rw [litT_step s k deep pre h, h92, he]; rfl
/-- Where the answer stands in a string in brackets. -/
structure Lit (s : ByteArray) (w wr : World) (R : Int × List UInt8 × Nat) (k deep : Nat) (pre : List UInt8) (bv : Value) : Prop where
  le : k ≤ s.size
  d1 : 1 ≤ deep
  dk : deep ≤ k + 1
  pl : pre.length ≤ k
  eq : litT (s.data.toList.drop k) deep pre k = R
  own : Own8 wr w.heap.size bv pre
  below : Below w.heap.size w wr
set_option maxHeartbeats 4000000 in
theorem rLiteral (s : ByteArray) (k0 : Nat) (w : World) (hk0 : k0 ≤ s.size) (hs : s.size ≤ 100000) :
    Calls Tryz.prog 186 #[.string s, .int .i64 k0] w fun e w' => e = .returned (.tuple #[.string ⟨(litT (s.data.toList.drop k0) 1 [] k0).2.1.toArray⟩, .int .i64 ((litT (s.data.toList.drop k0) 1 [] k0).2.2 : Nat), .int .i64 (litT (s.data.toList.drop k0) 1 [] k0).1]) ∧ Below w.heap.size w w' := by
  generalize hR : litT (s.data.toList.drop k0) 1 [] k0 = R
  have HR0 := hid hR
  clear hR
  go_enter Tryz.func186, Tryz.ntmps186
  go_wp2
  go_loopw [1, 7, 8] (fun av bv dv wr => ∃ (k deep : Nat) (pre : List UInt8), av = .int .i64 k ∧ dv = .int .i64 deep ∧ Lit s w wr R k deep pre bv) (fun av _ _ _ => s.size - (intOf av).toNat)
  case atStart => exact ⟨k0, 1, [], rfl, rfl, ⟨hk0, by omega, by omega, by simp, HR0.out, Own8.nil _ _, Below.refl _ _⟩⟩
  case round =>
    clear HR0
    obtain ⟨k, deep, pre, rfl, rfl, hL⟩ := hrel
    have HL := hid hL
    obtain ⟨hk, hd1, hdk, hpl, _, hown, hb⟩ := hL
    have hbs := hb.size
    by_cases hlt : k < s.size
    · have hlt' : (k : Int) < s.size := by omega
      have HS := hid (litT_step s k deep pre hlt)
      have hc := s[k].toNat_lt
      by_cases h41 : s[k] = 41
      · have q41 : (s[k].toNat : Int) = 41 := by rw [h41]; rfl
        by_cases hd : deep = 1
        · have HRE := hid (show (0, pre, k + 1) = R by rw [← HL.out.eq, HS.out, if_pos (by rw [h41]; rfl), if_pos hd])
          subst hd
          clear h41 HS
          have hcv := own8_conv hown
          go_wp2
          go_ret3
          refine ⟨?_, hb⟩
          rw [← HRE.out]; simp
        · have HRN := hid (show litT (s.data.toList.drop (k + 1)) (deep - 1) (pre ++ [s[k]]) (k + 1) = R by rw [← HL.out.eq, HS.out, if_pos (by rw [h41]; rfl), if_neg hd])
          obtain ⟨d2, rfl⟩ : ∃ d2 : Nat, deep = d2 + 1 := ⟨deep - 1, by omega⟩
          have hd0 : ((d2 : Int) == 0) = false := by simpa using (show ¬ (d2 : Int) = 0 by omega)
          have hd0' : ¬ d2 = 0 := by omega
          clear h41 HS hd
          go_wp2_with (at_builtin; refine wpApp8 rfl (.tmp 36) (.tmp 38) rfl w.heap.size _ pre rfl hown _ [s[k]] 1 1 rfl rfl ?cc (by omega) hbs ?_)
          case cc => first | exact one8 q41 | (unfold byteV; rw [q41])
          intro v2 w2 hown2 hk2
          go_wp2
          go_roundw
          case rel => exact ⟨k + 1, d2, pre ++ [s[k]], by go_num, by go_num, ⟨by omega, by omega, by omega, by simp; omega, HRN.out, hown2, hb.trans hk2.below⟩⟩
          case measure => simp [intOf]; omega
      · have q41 : ((s[k].toNat : Int) == 41) = false := ne_u8 (k := 41) (by omega) h41
        have n41 : ¬ (s[k] == 41) = true := by simpa using h41
        by_cases h40 : s[k] = 40
        · have q40 : (s[k].toNat : Int) = 40 := by rw [h40]; rfl
          have HRN := hid (show litT (s.data.toList.drop (k + 1)) (deep + 1) (pre ++ [s[k]]) (k + 1) = R by rw [← HL.out.eq, HS.out, if_neg n41, if_pos (by rw [h40]; rfl)])
          clear h41 HS h40 n41
          go_wp2_with (at_builtin; refine wpApp8 rfl (.tmp 36) (.tmp 38) rfl w.heap.size _ pre rfl hown _ [s[k]] 1 1 rfl rfl ?cc (by omega) hbs ?_)
          case cc => first | exact one8 q40 | (unfold byteV; rw [q40])
          intro v2 w2 hown2 hk2
          go_wp2
          go_roundw
          case rel => exact ⟨k + 1, deep + 1, pre ++ [s[k]], by go_num, by go_num, ⟨by omega, by omega, by omega, by simp; omega, HRN.out, hown2, hb.trans hk2.below⟩⟩
          case measure => simp [intOf]; omega
        · have q40 : ((s[k].toNat : Int) == 40) = false := ne_u8 (k := 40) (by omega) h40
          have n40 : ¬ (s[k] == 40) = true := by simpa using h40
          by_cases h92 : s[k] = 92
          · have q92 : (s[k].toNat : Int) = 92 := by rw [h92]; rfl
            have H92 := hid h92
            clear h41 h40 n41 n40 HS h92
            by_cases hend : k + 1 = s.size
            · have hend' : (k : Int) + 1 = s.size := by omega
              have HRE := hid (show (5, [], 0) = R by
                rw [← HL.out.eq, litT_step s k deep pre hlt, H92.out, List.drop_eq_nil_of_le (by simp; omega)]; rfl)
              go_wp2
              go_ret3
              refine ⟨?_, hb⟩
              rw [← HRE.out]; rfl
            · have hend' : ¬ (k : Int) + 1 = s.size := by omega
              have hend2 : ((k : Int) + 1 == (s.size : Int)) = false := by simpa using hend'
              have hel : k + 1 < s.size := by omega
              have hel' : (k : Int) + 1 < s.size := by omega
              have HE := hid (escL_at s (k + 1) hel)
              have he := s[k + 1].toNat_lt
              by_cases h110 : s[k + 1] = 110
              · have q110 : (s[k + 1].toNat : Int) = 110 := by rw [h110]; rfl
                have HRN := hid (show litT (s.data.toList.drop (k + 2)) deep (pre ++ [10]) (k + 2) = R by
                  rw [← HL.out.eq, litT_esc (x := [10]) (m := 1) hlt H92.out (by rw [HE.out, h110]; rfl)])
                clear h110
                go_wp2_with (at_builtin; refine wpApp8 rfl (.tmp 58) (.tmp 59) rfl w.heap.size _ pre rfl hown _ [10] 1 1 rfl rfl ?cc (by omega) hbs ?_)
                case cc => first | rfl | exact one8 rfl
                intro v2 w2 hown2 hk2
                go_wp2
                go_roundw
                case rel => exact ⟨k + 2, deep, pre ++ [10], by go_num, by go_num, ⟨by omega, by omega, by omega, by simp; omega, HRN.out, hown2, hb.trans hk2.below⟩⟩
                case measure => simp [intOf]; omega
              have q110 : ((s[k + 1].toNat : Int) == 110) = false := ne_u8 (k := 110) (by omega) h110
              have n110 : ¬ (s[k + 1] == 110) = true := by simpa using h110
              by_cases h114 : s[k + 1] = 114
              · have q114 : (s[k + 1].toNat : Int) = 114 := by rw [h114]; rfl
                have HRN := hid (show litT (s.data.toList.drop (k + 2)) deep (pre ++ [13]) (k + 2) = R by
                  rw [← HL.out.eq, litT_esc (x := [13]) (m := 1) hlt H92.out (by rw [HE.out, h114]; rfl)])
                clear h114
                go_wp2_with (at_builtin; refine wpApp8 rfl (.tmp 64) (.tmp 65) rfl w.heap.size _ pre rfl hown _ [13] 1 1 rfl rfl ?cc (by omega) hbs ?_)
                case cc => first | rfl | exact one8 rfl
                intro v2 w2 hown2 hk2
                go_wp2
                go_roundw
                case rel => exact ⟨k + 2, deep, pre ++ [13], by go_num, by go_num, ⟨by omega, by omega, by omega, by simp; omega, HRN.out, hown2, hb.trans hk2.below⟩⟩
                case measure => simp [intOf]; omega
              have q114 : ((s[k + 1].toNat : Int) == 114) = false := ne_u8 (k := 114) (by omega) h114
              have n114 : ¬ (s[k + 1] == 114) = true := by simpa using h114
              by_cases h116 : s[k + 1] = 116
              · have q116 : (s[k + 1].toNat : Int) = 116 := by rw [h116]; rfl
                have HRN := hid (show litT (s.data.toList.drop (k + 2)) deep (pre ++ [9]) (k + 2) = R by
                  rw [← HL.out.eq, litT_esc (x := [9]) (m := 1) hlt H92.out (by rw [HE.out, h116]; rfl)])
                clear h116
                go_wp2_with (at_builtin; refine wpApp8 rfl (.tmp 70) (.tmp 71) rfl w.heap.size _ pre rfl hown _ [9] 1 1 rfl rfl ?cc (by omega) hbs ?_)
                case cc => first | rfl | exact one8 rfl
                intro v2 w2 hown2 hk2
                go_wp2
                go_roundw
                case rel => exact ⟨k + 2, deep, pre ++ [9], by go_num, by go_num, ⟨by omega, by omega, by omega, by simp; omega, HRN.out, hown2, hb.trans hk2.below⟩⟩
                case measure => simp [intOf]; omega
              have q116 : ((s[k + 1].toNat : Int) == 116) = false := ne_u8 (k := 116) (by omega) h116
              have n116 : ¬ (s[k + 1] == 116) = true := by simpa using h116
              by_cases h98 : s[k + 1] = 98
              · have q98 : (s[k + 1].toNat : Int) = 98 := by rw [h98]; rfl
                have HRN := hid (show litT (s.data.toList.drop (k + 2)) deep (pre ++ [8]) (k + 2) = R by
                  rw [← HL.out.eq, litT_esc (x := [8]) (m := 1) hlt H92.out (by rw [HE.out, h98]; rfl)])
                clear h98
                go_wp2_with (at_builtin; refine wpApp8 rfl (.tmp 76) (.tmp 77) rfl w.heap.size _ pre rfl hown _ [8] 1 1 rfl rfl ?cc (by omega) hbs ?_)
                case cc => first | rfl | exact one8 rfl
                intro v2 w2 hown2 hk2
                go_wp2
                go_roundw
                case rel => exact ⟨k + 2, deep, pre ++ [8], by go_num, by go_num, ⟨by omega, by omega, by omega, by simp; omega, HRN.out, hown2, hb.trans hk2.below⟩⟩
                case measure => simp [intOf]; omega
              have q98 : ((s[k + 1].toNat : Int) == 98) = false := ne_u8 (k := 98) (by omega) h98
              have n98 : ¬ (s[k + 1] == 98) = true := by simpa using h98
              by_cases h102 : s[k + 1] = 102
              · have q102 : (s[k + 1].toNat : Int) = 102 := by rw [h102]; rfl
                have HRN := hid (show litT (s.data.toList.drop (k + 2)) deep (pre ++ [12]) (k + 2) = R by
                  rw [← HL.out.eq, litT_esc (x := [12]) (m := 1) hlt H92.out (by rw [HE.out, h102]; rfl)])
                clear h102
                go_wp2_with (at_builtin; refine wpApp8 rfl (.tmp 82) (.tmp 83) rfl w.heap.size _ pre rfl hown _ [12] 1 1 rfl rfl ?cc (by omega) hbs ?_)
                case cc => first | rfl | exact one8 rfl
                intro v2 w2 hown2 hk2
                go_wp2
                go_roundw
                case rel => exact ⟨k + 2, deep, pre ++ [12], by go_num, by go_num, ⟨by omega, by omega, by omega, by simp; omega, HRN.out, hown2, hb.trans hk2.below⟩⟩
                case measure => simp [intOf]; omega
              have q102 : ((s[k + 1].toNat : Int) == 102) = false := ne_u8 (k := 102) (by omega) h102
              have n102 : ¬ (s[k + 1] == 102) = true := by simpa using h102
              by_cases h10 : s[k + 1] = 10
              · have q10 : (s[k + 1].toNat : Int) = 10 := by rw [h10]; rfl
                have HRN := hid (show litT (s.data.toList.drop (k + 2)) deep pre (k + 2) = R by
                  rw [← HL.out.eq, litT_esc (x := []) (m := 1) hlt H92.out (by rw [HE.out, h10]; rfl), List.append_nil])
                clear h10
                go_wp2
                exact ⟨⟨k + 2, deep, pre, by go_num, rfl, ⟨by omega, by omega, by omega, by omega, HRN.out, hown, hb⟩⟩, by simp [intOf]; omega⟩
              have q10 : ((s[k + 1].toNat : Int) == 10) = false := ne_u8 (k := 10) (by omega) h10
              have n10 : ¬ (s[k + 1] == 10) = true := by simpa using h10
              by_cases h13 : s[k + 1] = 13
              · have q13 : (s[k + 1].toNat : Int) = 13 := by rw [h13]; rfl
                by_cases hnx : s.data.toList[k + 2]? = some 10
                · have hl2 : k + 2 < s.size := by simpa using (List.getElem?_eq_some_iff.1 hnx).1
                  have hl2' : (k : Int) + 2 < s.size := by omega
                  have q2 : (s[k + 2].toNat : Int) = 10 := by
                    have := rdAt_get hl2
                    rw [hnx] at this
                    injection this with this
                    rw [← this]; rfl
                  have HRN := hid (show litT (s.data.toList.drop (k + 3)) deep pre (k + 3) = R by
                    rw [← HL.out.eq, litT_esc (x := []) (m := 2) hlt H92.out (by rw [HE.out, h13, hnx]; rfl), List.append_nil])
                  clear h13 hnx
                  go_wp2
                  exact ⟨⟨k + 3, deep, pre, by go_num, rfl, ⟨by omega, by omega, by omega, by omega, HRN.out, hown, hb⟩⟩, by simp [intOf]; omega⟩
                · have HRN := hid (show litT (s.data.toList.drop (k + 2)) deep pre (k + 2) = R by
                    rw [← HL.out.eq, litT_esc (x := []) (m := 1) hlt H92.out (by rw [HE.out, h13, if_neg hnx]; rfl), List.append_nil])
                  by_cases hl2 : k + 2 < s.size
                  · have hl2' : (k : Int) + 2 < s.size := by omega
                    have q2 : ((s[k + 2].toNat : Int) == 10) = false := ne_u8 (k := 10) (by omega) (fun e => hnx (by rw [rdAt_get hl2, e]; rfl))
                    clear h13 hnx
                    go_wp2
                    exact ⟨⟨k + 2, deep, pre, by go_num, rfl, ⟨by omega, by omega, by omega, by omega, HRN.out, hown, hb⟩⟩, by simp [intOf]; omega⟩
                  · have hl2' : ¬ (k : Int) + 1 + 1 < s.size := by omega
                    clear h13 hnx
                    go_wp2
                    exact ⟨⟨k + 2, deep, pre, by go_num, rfl, ⟨by omega, by omega, by omega, by omega, HRN.out, hown, hb⟩⟩, by simp [intOf]; omega⟩
              have q13 : ((s[k + 1].toNat : Int) == 13) = false := ne_u8 (k := 13) (by omega) h13
              have n13 : ¬ (s[k + 1] == 13) = true := by simpa using h13
              by_cases ho : isOct s[k + 1] = true
              · have ho' := (isOct_iff _).1 ho
                obtain ⟨x, hx⟩ : ∃ x : Nat, s[k + 1].toNat = x + 48 := ⟨s[k + 1].toNat - 48, by omega⟩
                have hx7 : x ≤ 7 := by omega
                have g1 : (48 : Int) ≤ (s[k + 1].toNat : Int) := by omega
                have g2 : (s[k + 1].toNat : Int) ≤ 55 := by omega
                have g2x : (x : Int) + 48 ≤ 55 := by omega
                obtain ⟨OV, hOV⟩ : ∃ OV, octV 3 (s.data.toList.drop (k + 1)) 0 = OV := ⟨_, rfl⟩
                obtain ⟨ON, hON⟩ : ∃ ON, octN 3 (s.data.toList.drop (k + 1)) = ON := ⟨_, rfl⟩
                have HRN := hid (show litT (s.data.toList.drop (k + 1 + ON)) deep (pre ++ [UInt8.ofNat (OV % 256)]) (k + 1 + ON) = R by
                  rw [← HL.out.eq, litT_esc (x := [UInt8.ofNat (OV % 256)]) (m := ON) hlt H92.out (by rw [HE.out, if_pos ho, hOV, hON])])
                have HO0 := hid (show octV 2 (s.data.toList.drop (k + 2)) x = OV ∧ octN 2 (s.data.toList.drop (k + 2)) + 1 = ON by
                  rw [← hOV, ← hON, drop_at s (k + 1) hel, octV_cons, octN_cons, if_pos ho, if_pos ho, hx]
                  exact ⟨by congr 1; omega, rfl⟩)
                clear hOV hON ho ho' HE n110 n114 n116 n98 n102 n10 n13 h110 h114 h116 h98 h102 h10 h13
                go_wp2
                go_loopw [1, 11, 12] (fun av nv kv wx => ∃ (p q n : Nat), av = .int .i64 p ∧ Hid (p = k + 1 + q) ∧ k + 1 ≤ p ∧ nv = .int .i64 n ∧ kv = .int .i64 q ∧ q ≤ 2 ∧ n < 512 ∧ (q ≤ 1 → n < 64) ∧ (q = 0 → n < 8) ∧ p < s.size ∧ Hid (octV (2 - q) (s.data.toList.drop (p + 1)) n = OV ∧ octN (2 - q) (s.data.toList.drop (p + 1)) + q + 1 = ON) ∧ wx = wr) (fun _ _ kv _ => 2 - (intOf kv).toNat)
                case atStart =>
                  exact ⟨k + 1, 0, x, by go_num, hid rfl, Nat.le_refl _, rfl, rfl, by omega, by omega, by omega, by omega, by omega, hid HO0.out, rfl⟩
                case round =>
                  obtain ⟨p, q, n, rfl, HPQ, hkp, rfl, rfl, hq2, hn, hn1, hn0, hpl2, HO, rfl⟩ := hrel
                  clear HO0
                  by_cases h1 : q < 2
                  · have h1' : (q : Int) < 2 := by omega
                    by_cases h2 : p + 1 < s.size
                    · have h2' : (p : Int) + 1 < s.size := by omega
                      have hc2 := s[p + 1].toNat_lt
                      by_cases h3 : isOct s[p + 1] = true
                      · have ho3 := (isOct_iff _).1 h3
                        obtain ⟨z, hz⟩ : ∃ z : Nat, s[p + 1].toNat = z + 48 := ⟨s[p + 1].toNat - 48, by omega⟩
                        have hz7 : z ≤ 7 := by omega
                        have g3 : (48 : Int) ≤ (s[p + 1].toNat : Int) := by omega
                        have g4 : (s[p + 1].toNat : Int) ≤ 55 := by omega
                        have HO2 := hid (show octV (2 - (q + 1)) (s.data.toList.drop (p + 1 + 1)) (8 * n + z) = OV ∧ octN (2 - (q + 1)) (s.data.toList.drop (p + 1 + 1)) + (q + 1) + 1 = ON by
                          have hx2 := HO.out
                          rw [drop_at s (p + 1) h2, show 2 - q = 2 - (q + 1) + 1 by omega, octV_cons, octN_cons, if_pos h3, if_pos h3, hz, show z + 48 - 48 = z by omega] at hx2
                          exact ⟨hx2.1, by omega⟩)
                        clear HO h3 ho3
                        go_wp2
                        go_roundw
                        case rel => exact ⟨p + 1, q + 1, 8 * n + z, by go_num, hid (by have := HPQ.out; omega), by omega, by go_num, by go_num, by omega, by omega, by omega, by omega, by omega, hid HO2.out, by first | rfl | trivial⟩
                        case measure => simp [intOf]; omega
                      · have h4 : ¬ (48 : Int) ≤ (s[p + 1].toNat : Int) ∨ ((48 : Int) ≤ (s[p + 1].toNat : Int) ∧ ¬ (s[p + 1].toNat : Int) ≤ 55) := by
                          rw [isOct_iff] at h3; omega
                        have hx2 := HO.out
                        rw [drop_at s (p + 1) h2, show 2 - q = 2 - (q + 1) + 1 by omega, octV_cons, octN_cons, if_neg h3, if_neg h3] at hx2
                        clear h3
                        rcases h4 with h4 | ⟨h4, h5⟩
                        · have e1 : n = OV := hx2.1
                          have e2 : 0 + q + 1 = ON := hx2.2
                          obtain ⟨y, q1, hy⟩ : ∃ y : UInt8, (y.toNat : Int) = (n : Int) % 256 ∧ UInt8.ofNat (n % 256) = y := ⟨UInt8.ofNat (n % 256), by simp only [UInt8.toNat_ofNat']; omega, rfl⟩
                          have HRX := hid (show litT (s.data.toList.drop (p + 1)) deep (pre ++ [y]) (p + 1) = R by
                            rw [← HRN.out, ← e2, ← e1, hy, show k + 1 + (0 + q + 1) = p + 1 by have := HPQ.out; omega])
                          clear hx2 e1 e2 hy HO HRN
                          go_wp2_with (at_builtin; refine wpApp8 rfl (.tmp 150) (.tmp 154) rfl w.heap.size _ pre rfl hown _ [y] 1 1 rfl rfl ?cc (by omega) hbs ?_)
                          case cc => first | exact one8 q1 | (unfold byteV; rw [q1])
                          intro v2 w2 hown2 hk2
                          go_wp2
                          go_roundw
                          case rel => exact ⟨p + 1, deep, pre ++ [y], by go_num, by go_num, ⟨by omega, by omega, by omega, by simp; omega, HRX.out, hown2, hb.trans hk2.below⟩⟩
                          case measure => simp [intOf]; omega
                        · have e1 : n = OV := hx2.1
                          have e2 : 0 + q + 1 = ON := hx2.2
                          obtain ⟨y, q1, hy⟩ : ∃ y : UInt8, (y.toNat : Int) = (n : Int) % 256 ∧ UInt8.ofNat (n % 256) = y := ⟨UInt8.ofNat (n % 256), by simp only [UInt8.toNat_ofNat']; omega, rfl⟩
                          have HRX := hid (show litT (s.data.toList.drop (p + 1)) deep (pre ++ [y]) (p + 1) = R by
                            rw [← HRN.out, ← e2, ← e1, hy, show k + 1 + (0 + q + 1) = p + 1 by have := HPQ.out; omega])
                          clear hx2 e1 e2 hy HO HRN
                          go_wp2_with (at_builtin; refine wpApp8 rfl (.tmp 150) (.tmp 154) rfl w.heap.size _ pre rfl hown _ [y] 1 1 rfl rfl ?cc (by omega) hbs ?_)
                          case cc => first | exact one8 q1 | (unfold byteV; rw [q1])
                          intro v2 w2 hown2 hk2
                          go_wp2
                          go_roundw
                          case rel => exact ⟨p + 1, deep, pre ++ [y], by go_num, by go_num, ⟨by omega, by omega, by omega, by simp; omega, HRX.out, hown2, hb.trans hk2.below⟩⟩
                          case measure => simp [intOf]; omega
                    · have h2' : ¬ (p : Int) + 1 < s.size := by omega
                      have hx2 := HO.out
                      rw [List.drop_eq_nil_of_le (by simp; omega), octV_nil, octN_nil] at hx2
                      have e1 : n = OV := hx2.1
                      have e2 : 0 + q + 1 = ON := hx2.2
                      obtain ⟨y, q1, hy⟩ : ∃ y : UInt8, (y.toNat : Int) = (n : Int) % 256 ∧ UInt8.ofNat (n % 256) = y := ⟨UInt8.ofNat (n % 256), by simp only [UInt8.toNat_ofNat']; omega, rfl⟩
                      have HRX := hid (show litT (s.data.toList.drop (p + 1)) deep (pre ++ [y]) (p + 1) = R by
                        rw [← HRN.out, ← e2, ← e1, hy, show k + 1 + (0 + q + 1) = p + 1 by have := HPQ.out; omega])
                      clear hx2 e1 e2 hy HO HRN
                      go_wp2_with (at_builtin; refine wpApp8 rfl (.tmp 150) (.tmp 154) rfl w.heap.size _ pre rfl hown _ [y] 1 1 rfl rfl ?cc (by omega) hbs ?_)
                      case cc => first | exact one8 q1 | (unfold byteV; rw [q1])
                      intro v2 w2 hown2 hk2
                      go_wp2
                      go_roundw
                      case rel => exact ⟨p + 1, deep, pre ++ [y], by go_num, by go_num, ⟨by omega, by omega, by omega, by simp; omega, HRX.out, hown2, hb.trans hk2.below⟩⟩
                      case measure => simp [intOf]; omega
                  · have h1' : ¬ (q : Int) < 2 := by omega
                    have hx2 := HO.out
                    rw [show 2 - q = 0 by omega, octV, octN] at hx2
                    have e1 : n = OV := hx2.1
                    have e2 : 0 + q + 1 = ON := hx2.2
                    obtain ⟨y, q1, hy⟩ : ∃ y : UInt8, (y.toNat : Int) = (n : Int) % 256 ∧ UInt8.ofNat (n % 256) = y := ⟨UInt8.ofNat (n % 256), by simp only [UInt8.toNat_ofNat']; omega, rfl⟩
                    have HRX := hid (show litT (s.data.toList.drop (p + 1)) deep (pre ++ [y]) (p + 1) = R by
                      rw [← HRN.out, ← e2, ← e1, hy, show k + 1 + (0 + q + 1) = p + 1 by have := HPQ.out; omega])
                    clear hx2 e1 e2 hy HO HRN
                    go_wp2_with (at_builtin; refine wpApp8 rfl (.tmp 150) (.tmp 154) rfl w.heap.size _ pre rfl hown _ [y] 1 1 rfl rfl ?cc (by omega) hbs ?_)
                    case cc => first | exact one8 q1 | (unfold byteV; rw [q1])
                    intro v2 w2 hown2 hk2
                    go_wp2
                    go_roundw
                    case rel => exact ⟨p + 1, deep, pre ++ [y], by go_num, by go_num, ⟨by omega, by omega, by omega, by simp; omega, HRX.out, hown2, hb.trans hk2.below⟩⟩
                    case measure => simp [intOf]; omega
              · have h4 : ¬ (48 : Int) ≤ (s[k + 1].toNat : Int) ∨ ((48 : Int) ≤ (s[k + 1].toNat : Int) ∧ ¬ (s[k + 1].toNat : Int) ≤ 55) := by
                  rw [isOct_iff] at ho; omega
                have HRN := hid (show litT (s.data.toList.drop (k + 2)) deep (pre ++ [s[k + 1]]) (k + 2) = R by
                  rw [← HL.out.eq, litT_esc (x := [s[k + 1]]) (m := 1) hlt H92.out (by rw [HE.out, if_neg ho, if_neg n110, if_neg n114, if_neg n116, if_neg n98, if_neg n102, if_neg n10, if_neg n13])])
                clear HE n110 n114 n116 n98 n102 n10 n13 h110 h114 h116 h98 h102 h10 h13 ho
                rcases h4 with h4 | ⟨h4, h5⟩
                all_goals
                  go_wp2_with (at_builtin; refine wpApp8 rfl (.tmp 51) (.tmp 53) rfl w.heap.size _ pre rfl hown _ [s[k + 1]] 1 1 rfl rfl ?cc (by omega) hbs ?_)
                  case cc => first | rfl | exact one8 rfl
                  intro v2 w2 hown2 hk2
                  go_wp2
                  go_roundw
                  case rel => exact ⟨k + 2, deep, pre ++ [s[k + 1]], by go_num, by go_num, ⟨by omega, by omega, by omega, by simp; omega, HRN.out, hown2, hb.trans hk2.below⟩⟩
                  case measure => simp [intOf]; omega
          · have q92b : ((s[k].toNat : Int) == 92) = false := ne_u8 (k := 92) (by omega) h92
            have q92 : ((s[k].toNat : Int) != 92) = true := by simp [bne, q92b]
            have HRN := hid (show litT (s.data.toList.drop (k + 1)) deep (pre ++ [s[k]]) (k + 1) = R by rw [← HL.out.eq, HS.out, if_neg n41, if_neg n40, if_neg (by simpa using h92)])
            clear h41 HS h40 n41 n40 h92
            go_wp2_with (at_builtin; refine wpApp8 rfl (.tmp 36) (.tmp 38) rfl w.heap.size _ pre rfl hown _ [s[k]] 1 1 rfl rfl ?cc (by omega) hbs ?_)
            case cc => first | rfl | exact one8 rfl
            intro v2 w2 hown2 hk2
            go_wp2
            go_roundw
            case rel => exact ⟨k + 1, deep, pre ++ [s[k]], by go_num, by go_num, ⟨by omega, by omega, by omega, by simp; omega, HRN.out, hown2, hb.trans hk2.below⟩⟩
            case measure => simp [intOf]; omega
    · have hke : k = s.size := by omega
      have hlt' : ¬ (k : Int) < s.size := by omega
      have HRE := hid (show (5, [], 0) = R by rw [← HL.out.eq, List.drop_eq_nil_of_le (by simp; omega)]; rfl)
      go_wp2
      go_ret3
      refine ⟨?_, hb⟩
      rw [← HRE.out]; rfl
end Go.Proofs.YtefbfgcbbpmhlabGreatDoor
