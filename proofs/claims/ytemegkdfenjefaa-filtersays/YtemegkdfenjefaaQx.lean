/-
  Filters of the document's answer: digits to the base 85 are taken apart: the walk.
-/
import Derived.Test.YtemegkdfenjefaaQw
import Derived.Test.YtemegkdfenjefaaQs
namespace Go.Proofs.Ytemegkdfenjefaa
open Go.RowKit
set_option maxRecDepth 100000

/-- More of the digit 84. -/
def fill (g : List Nat) (j : Nat) : List Nat := g ++ List.replicate (j - g.length) 84
theorem fill_self (g : List Nat) : fill g g.length = g := by simp [fill]
theorem fill_succ (g : List Nat) (j : Nat) (h : g.length ≤ j) : val85 (fill g (j + 1)) = 85 * val85 (fill g j) + 84 := by
  unfold fill
  rw [show j + 1 - g.length = (j - g.length) + 1 by omega, List.replicate_succ', ← List.append_assoc, val85_snoc]
theorem fill_len (g : List Nat) (j : Nat) (h : g.length ≤ j) : (fill g j).length = j := by simp [fill]; omega
theorem fill_lt (g : List Nat) (hg : ∀ d ∈ g, d < 85) (j : Nat) : ∀ d ∈ fill g j, d < 85 := by
  intro d hd
  rcases List.mem_append.1 hd with h | h
  · exact hg d h
  · have := List.eq_of_mem_replicate h; omega
theorem fill_bd (g : List Nat) (hg : Digs g) (j : Nat) (h : g.length ≤ j) (hj : j ≤ 4) : ((val85 (fill g j) : Nat) : Int) < 52200625 :=
  Digs.val' ⟨by rw [fill_len g j h]; exact hj, fill_lt g hg.lt j⟩
theorem fill_bd5 (g : List Nat) (hg : Digs g) : val85 (fill g 5) < 4437053125 := by
  have h := val85_lt (fill g 5) (fill_lt g hg.lt 5)
  rw [fill_len g 5 (by have := hg.len; omega)] at h
  exact Nat.lt_of_lt_of_le h (by decide)
/-- The four bytes, and the first of them. -/
theorem head_cells {w : World} {t : TypeId} {a b c d : UInt8} {x y z u : Int} (ha : (a.toNat : Int) = x) (hb : (b.toNat : Int) = y) (hc : (c.toNat : Int) = z) (hd : (d.toNat : Int) = u) (m : Nat) (j : Nat) (v : Value) (h : (([a, b, c, d].take m).map byteV)[j]? = some v) :
    (w.alloc (.cells #[.int .u8 x, .int .u8 y, .int .u8 z, .int .u8 u] t)).cell? ⟨w.heap.size, j, none⟩ = some v := by
  subst ha; subst hb; subst hc; subst hd
  rw [World.cell?_alloc_new]
  rw [List.map_take, List.getElem?_take] at h
  by_cases hj : j < m
  · rw [if_pos hj] at h
    have e : #[Value.int .u8 (a.toNat : Int), Value.int .u8 (b.toNat : Int), Value.int .u8 (c.toNat : Int), Value.int .u8 (d.toNat : Int)] = ([a, b, c, d].map byteV).toArray := rfl
    rw [e, List.getElem?_toArray]; exact h
  · rw [if_neg hj] at h; cases h
theorem four8 {a b c d : UInt8} {x y z u : Int} (ha : (a.toNat : Int) = x) (hb : (b.toNat : Int) = y) (hc : (c.toNat : Int) = z) (hd : (d.toNat : Int) = u) : #[Value.int .u8 x, Value.int .u8 y, Value.int .u8 z, Value.int .u8 u] = ([a, b, c, d].map byteV).toArray := by
  subst ha; subst hb; subst hc; subst hd; rfl
theorem u8_in (q : Int) (h0 : 0 ≤ q) (h1 : q < 256) : ((UInt8.ofNat q.toNat).toNat : Int) = q := by simp only [UInt8.toNat_ofNat']; omega
/-- The four bytes of a number, as the answer reckons them. -/
theorem four_wraps (V : Nat) (h : V < 4294967296) : ∃ y0 y1 y2 y3 : UInt8, byte4 V = [y0, y1, y2, y3] ∧ wrap64 ((V : Int) / 16777216) = y0.toNat ∧ (wrap64 ((V : Int) / 65536)).tmod 256 = y1.toNat ∧ (wrap64 ((V : Int) / 256)).tmod 256 = y2.toNat ∧ (V : Int) % 256 = y3.toNat := by
  refine ⟨_, _, _, _, rfl, ?_, ?_, ?_, ?_⟩
  · simp only [UInt8.toNat_ofNat']; unfold wrap64; omega
  · rw [show wrap64 ((V : Int) / 65536) = (V : Int) / 65536 by unfold wrap64; omega, tm_nonneg (by omega)]; simp only [UInt8.toNat_ofNat']; omega
  · rw [show wrap64 ((V : Int) / 256) = (V : Int) / 256 by unfold wrap64; omega, tm_nonneg (by omega)]; simp only [UInt8.toNat_ofNat']; omega
  · simp only [UInt8.toNat_ofNat']; omega
theorem wrap85 (v c : Int) (h0 : 0 ≤ v) (h1 : v < 52200625) (c0 : 33 ≤ c) (c1 : c ≤ 117) : wrap64 (wrap64 (wrap64 (85 * v) + c) - 33) = 85 * v + (c - 33) := by
  have e1 : wrap64 (85 * v) = 85 * v := by unfold wrap64; omega
  have e2 : wrap64 (85 * v + c) = 85 * v + c := by unfold wrap64; omega
  have e3 : wrap64 (85 * v + c - 33) = 85 * v + c - 33 := by unfold wrap64; omega
  rw [e1, e2, e3]; omega
theorem wrap84 (v : Int) (h0 : 0 ≤ v) (h1 : v < 52200625) : wrap64 (wrap64 (85 * v) + 84) = 85 * v + 84 := by
  have e1 : wrap64 (85 * v) = 85 * v := by unfold wrap64; omega
  have e2 : wrap64 (85 * v + 84) = 85 * v + 84 := by unfold wrap64; omega
  rw [e1, e2]
def outT (r : Int × List UInt8) : Value := .tuple #[.string ⟨r.2.toArray⟩, .int .i64 r.1]
set_option maxHeartbeats 4000000 in
theorem rTaken85 (s : ByteArray) (w : World) (hs : s.size ≤ 100000) :
    Calls Try.prog 27 #[.string s] w fun e w' => e = .returned (outT (fiveTk s.data.toList [] [])) ∧ Below w.heap.size w w' := by
  generalize hR : fiveTk s.data.toList [] [] = R
  have HR0 := hid hR
  clear hR
  go_enter Try.func27, Try.ntmps27
  go_wp2
  go_loopw [4, 5, 6, 7] (fun bv nv kv i wr => ∃ (k : Nat) (g : List Nat) (pre : List UInt8), i = .int .i64 k ∧ kv = .int .i64 (g.length : Nat) ∧ nv = .int .i64 (val85 g : Nat) ∧ k ≤ s.size ∧ pre.length ≤ 4 * k ∧ fiveTk (s.data.toList.drop k) g pre = R ∧ Digs g ∧ Own8 wr w.heap.size bv pre ∧ Below w.heap.size w wr) (fun _ _ _ i _ => s.size - (intOf i).toNat)
  case atStart => exact ⟨0, [], [], rfl, rfl, rfl, Nat.zero_le _, Nat.le_refl _, HR0.out, Digs.nil, Own8.nil _ _, Below.refl _ _⟩
  case round =>
    clear HR0
    obtain ⟨k, g, pre, rfl, rfl, rfl, hk, hpl, hR, hD, hown, hb⟩ := hrel
    have hbs := hb.size
    have HR := hid hR
    clear hR
    have hh := hD.len
    by_cases hlt : k < s.size
    · have HS := hid (fiveTk_step s k g pre hlt)
      have hlt' : (k : Int) < s.size := by omega
      have hc := s[k].toNat_lt
      have HRS := hid (HS.out.symm.trans HR.out)
      clear HS HR
      cases b1 : isBl s[k]
      case true =>
        have B1 := hid b1
        generalize hgl : g.length = gl at *
        generalize hvl : val85 g = vl at *
        have HGL := hid hgl
        have HVL := hid hvl
        clear hgl hvl
        go_wp2_with (go_at_call 39; refine (rBlank s[k] _).mono ?_; rintro e w1 ⟨rfl, rfl⟩)
        go_roundw
        case rel =>
          refine ⟨k + 1, g, pre, by go_num, by rw [HGL.out], by rw [HVL.out], by omega, by omega, ?_, hD, hown, hb⟩
          have h1 := HRS.out
          rw [if_pos B1.out] at h1
          exact h1
        case measure => simp [intOf]; omega
      case false =>
        have B1 := hid b1
        cases b0 : (s[k] == 126)
        case true =>
          have B0 := hid b0
          have q0 : (s[k].toNat : Int) = 126 := by rw [eq_of_beq b0]; rfl
          have B2 := hid (show isBl 126 = false from rfl)
          have HRS2 := hid (show (if (s.data.toList.drop (k + 1)).head? = some 62 then fiveEnd g pre else (4, [])) = R by
            have h1 := HRS.out
            rw [if_neg (by rw [B1.out]; simp), if_pos B0.out] at h1
            exact h1)
          clear b0 b1 HRS
          by_cases hnx : (k : Int) + 1 < s.size
          · have hnx' : k + 1 < s.size := by omega
            have hge : (0 : Int) ≤ (k : Int) + 1 := by omega
            have HHD := hid (show (s.data.toList.drop (k + 1)).head? = some s[k + 1] by rw [cons_at s (k + 1) hnx']; rfl)
            by_cases h62 : s[k + 1] = 62
            · have q62 : (s[k + 1].toNat : Int) = 62 := by rw [h62]; rfl
              have HRE := hid (show fiveEnd g pre = R by
                have h1 := HRS2.out
                rw [if_pos (by rw [HHD.out, h62])] at h1
                exact h1)
              clear HRS2 HHD h62
              by_cases g0 : g.length = 0
              · obtain rfl : g = [] := List.eq_nil_of_length_eq_zero g0
                have hcv := own8_conv hown
                go_wp2_with (go_at_call 39; refine (rBlankK 126 _ rfl _).mono ?_; rintro e w1 ⟨rfl, rfl⟩; rw [B2.out])
                go_ret2
                rw [← HRE.out]
                exact ⟨rfl, hb⟩
              by_cases g1 : g.length = 1
              · have HE1 := hid (show fiveEnd g pre = (4, []) by unfold fiveEnd; rw [if_neg g0, if_pos g1])
                rw [g1]
                generalize hvl : val85 g = vl at *
                clear hvl
                go_wp2_with (go_at_call 39; refine (rBlankK 126 _ rfl _).mono ?_; rintro e w1 ⟨rfl, rfl⟩; rw [B2.out])
                go_ret2
                rw [← HRE.out, HE1.out]
                exact ⟨rfl, hb⟩
              have HFE := hid (fiveEnd_gen g (by omega) pre)
              have HF0 := hid (fill_self g)
              have HFB := hid (fun (j : Nat) (h : g.length ≤ j) (hj : j ≤ 4) => fill_bd g hD j h hj)
              have HFS := hid (fun (j : Nat) (h : g.length ≤ j) => fill_succ g j h)
              have HF5 := hid (fill_bd5 g hD)
              have b0' : ((g.length : Int) == 0) = false := by simpa using g0
              have b1' : ((g.length : Int) == 1) = false := by simpa using (show ¬ (g.length : Int) = 1 by omega)
              have hFill : fill g 5 = g ++ List.replicate (5 - g.length) 84 := rfl
              rw [← hFill] at HFE
              clear hFill
              generalize hgl : g.length = gl at *
              have HGL := hid hgl
              have HV0 := hid (show val85 (fill g gl) = val85 g by rw [HF0.out])
              clear hgl
              go_wp2_with (go_at_call 39; refine (rBlankK 126 _ rfl _).mono ?_; rintro e w1 ⟨rfl, rfl⟩; rw [B2.out])
              go_loop [5, 9] (fun nv jv => ∃ j : Nat, gl ≤ j ∧ j ≤ 5 ∧ jv = .int .i64 j ∧ nv = .int .i64 (val85 (fill g j) : Nat)) (fun _ jv => 5 - (intOf jv).toNat)
              case atStart => exact ⟨gl, Nat.le_refl _, by omega, rfl, by rw [HV0.out]⟩
              case round =>
                obtain ⟨j, hj1, hj2, rfl, rfl⟩ := hrel
                by_cases hj5 : (j : Int) < 5
                · obtain ⟨V, hV⟩ : ∃ V : Nat, V = 85 * val85 (fill g j) + 84 := ⟨_, rfl⟩
                  have HV := hid (show val85 (fill g (j + 1)) = V by rw [HFS.out j hj1, hV])
                  have hw2 : wrap64 (wrap64 (85 * ((val85 (fill g j) : Nat) : Int)) + 84) = (V : Int) :=
                    (wrap84 _ (by omega) (HFB.out j hj1 (by omega))).trans (by rw [hV]; omega)
                  clear hV
                  generalize val85 (fill g j) = vl at *
                  go_wp2
                  go_round
                  case rel => exact ⟨j + 1, by omega, by omega, by go_num, by rw [HV.out, hw2]⟩
                  case measure => simp [intOf]; omega
                · obtain rfl : j = 5 := by omega
                  have hV5 := HF5.out
                  generalize hvv : val85 (fill g 5) = V at *
                  have HVV := hid hvv
                  clear hvv HFB HFS HF5 HV0
                  by_cases hv : V < 4294967296
                  · have hdec : decide ((4294967295 : Int) < (V : Int)) = false := by simpa using (show (V : Int) ≤ 4294967295 by omega)
                    obtain ⟨y0, y1, y2, y3, hby, e0, e1, e2, e3⟩ := four_wraps V hv
                    have HRN := hid (show (0, pre ++ [y0, y1, y2, y3].take (gl - 1)) = R by
                      have h1 := HRE.out
                      rw [HFE.out, readR_ok (by omega), hby] at h1
                      exact h1)
                    clear hv hby hV5 HRE HFE
                    have l0 := y0.toNat_lt
                    have l1 := y1.toNat_lt
                    have l2 := y2.toNat_lt
                    have l3 := y3.toNat_lt
                    have hgl1 : ((gl : Int) - 1).toNat = gl - 1 := by omega
                    go_wp2_with (at_builtin; refine wpApp8p rfl (.tmp 67) (.tmp 71) rfl w.heap.size _ pre rfl (hown.alloc _) w1.heap.size ([y0, y1, y2, y3].take (gl - 1)) (gl - 1) 4 rfl (by rw [List.length_take]; simp; omega) (fun j v h => head_cells (by omega) (by omega) (by omega) (by omega) (gl - 1) j v h) (by omega) (by simp; omega) ?_)
                    intro v2 w2 hown2 hk2
                    have hcv := own8_conv hown2
                    go_wp2
                    go_ret2
                    rw [← HRN.out]
                    exact ⟨rfl, hb.trans (hk2.unalloc.kept hown hbs).below⟩
                  · have hdec : decide ((4294967295 : Int) < (V : Int)) = true := by simpa using (show (4294967295 : Int) < (V : Int) by omega)
                    have HRN := hid (show (4, []) = R by
                      have h1 := HRE.out
                      rw [HFE.out, readR_bad (by omega)] at h1
                      exact h1)
                    clear hv hV5 HRE HFE
                    go_wp2
                    go_ret2
                    rw [← HRN.out]
                    exact ⟨rfl, hb⟩
            · have q62 : ((s[k + 1].toNat : Int) == 62) = false := by rw [show (62 : Int) = ((62 : UInt8).toNat : Int) from rfl, beq_u8]; simpa using h62
              have q63 : ((s[k + 1].toNat : Int) != 62) = true := by rw [bne, q62]; rfl
              have HRE := hid (show (4, []) = R by
                have h1 := HRS2.out
                rw [if_neg (by rw [HHD.out]; simpa using h62)] at h1
                exact h1)
              clear HRS2 HHD h62
              generalize hgl : g.length = gl at *
              generalize hvl : val85 g = vl at *
              go_wp2_with (go_at_call 39; refine (rBlankK 126 _ rfl _).mono ?_; rintro e w1 ⟨rfl, rfl⟩; rw [B2.out])
              go_ret2
              rw [← HRE.out]
              exact ⟨rfl, hb⟩
          · have HRE := hid (show (4, []) = R by
              have h1 := HRS2.out
              rw [drop_all s (k + 1) (by omega), if_neg (by simp)] at h1
              exact h1)
            clear HRS2
            generalize hgl : g.length = gl at *
            generalize hvl : val85 g = vl at *
            go_wp2_with (go_at_call 39; refine (rBlankK 126 _ rfl _).mono ?_; rintro e w1 ⟨rfl, rfl⟩; rw [B2.out])
            go_ret2
            rw [← HRE.out]
            exact ⟨rfl, hb⟩
        case false =>
          have B0 := hid b0
          have q0 : ((s[k].toNat : Int) == 126) = false := by rw [← b0]; exact beq_u8 s[k] 126
          clear b0
          by_cases hz : s[k] = 122 ∧ g.length = 0
          · obtain ⟨hz1, hz0⟩ := hz
            obtain rfl : g = [] := List.eq_nil_of_length_eq_zero hz0
            have q1 : (s[k].toNat : Int) = 122 := by rw [hz1]; rfl
            have B2 := hid (show isBl 122 = false from rfl)
            have Z1 := hid hz1
            clear hz1 b1 q0 hz0
            go_wp2_with (first
              | (go_at_call 39; refine (rBlankK 122 _ rfl _).mono ?_; rintro e w1 ⟨rfl, rfl⟩; rw [B2.out])
              | (at_builtin; refine wpApp8 rfl (.tmp 80) (.tmp 81) rfl w.heap.size _ pre rfl hown _ [0, 0, 0, 0] 4 4 rfl rfl rfl (by omega) hbs ?_; intro v2 w2 hown2 hk2))
            go_roundw
            case rel =>
              refine ⟨k + 1, [], pre ++ [0, 0, 0, 0], by go_num, rfl, rfl, by omega, by simp; omega, ?_, Digs.nil, hown2, hb.trans hk2.below⟩
              have h1 := HRS.out
              rw [if_neg (by rw [B1.out]; simp), if_neg (by rw [B0.out]; simp), if_pos (by rw [Z1.out]; rfl)] at h1
              exact h1
            case measure => simp [intOf]; omega
          · have HZ := hid (show ¬ ((s[k] == 122 && g.length == 0) = true) by simpa using hz)
            have hzz : ((s[k].toNat : Int) == 122) = false ∨ ((g.length : Int) == 0) = false := by
              by_cases e : s[k] = 122
              · exact .inr (by simpa using fun e' : g.length = 0 => hz ⟨e, e'⟩)
              · exact .inl (by rw [show (122 : Int) = ((122 : UInt8).toNat : Int) from rfl, beq_u8]; simpa using e)
            clear hz
            generalize hgl : g.length = gl at *
            generalize hvl : val85 g = vl at *
            have HGL := hid hgl
            have HVL := hid hvl
            clear hgl hvl
            by_cases hbad : s[k].toNat < 33 ∨ 117 < s[k].toNat
            · have HBD := hid hbad
              rcases hzz with hzz | hzz
              all_goals
                go_wp2_with (go_at_call 39; refine (rBlank s[k] _).mono ?_; rintro e w1 ⟨rfl, rfl⟩)
                all_goals
                  go_ret2
                  have h1 := HRS.out
                  rw [if_neg (by rw [B1.out]; simp), if_neg (by rw [B0.out]; simp), if_neg HZ.out, if_pos HBD.out] at h1
                  subst h1
                  exact ⟨rfl, hb⟩
            · have HBD := hid hbad
              have lo : (33 : Int) ≤ s[k].toNat := by omega
              have hi : (s[k].toNat : Int) ≤ 117 := by omega
              have n122 : ((s[k].toNat : Int) == 122) = false := by simpa using (show ¬ (s[k].toNat : Int) = 122 by omega)
              clear hbad hzz
              obtain ⟨V, hV⟩ : ∃ V : Nat, V = 85 * vl + (s[k].toNat - 33) := ⟨_, rfl⟩
              have HV := hid (show val85 (g ++ [s[k].toNat - 33]) = V by rw [val85_snoc, HVL.out, hV])
              have hw3 : wrap64 (wrap64 (wrap64 (85 * (vl : Int)) + (s[k].toNat : Int)) - 33) = (V : Int) :=
                (wrap85 (vl : Int) _ (by omega) (by have := hD.val'; rw [HVL.out] at this; exact this) lo hi).trans (by rw [hV]; omega)
              clear hV
              by_cases h4 : gl = 4
              · subst h4
                by_cases hv : V < 4294967296
                · have hdec : decide ((4294967295 : Int) < (V : Int)) = false := by simpa using (show (V : Int) ≤ 4294967295 by omega)
                  obtain ⟨y0, y1, y2, y3, hby, e0, e1, e2, e3⟩ := four_wraps V hv
                  have HBY := hid hby
                  have HRN := hid (show fiveTk (s.data.toList.drop (k + 1)) [] (pre ++ [y0, y1, y2, y3]) = R by
                    have h1 := HRS.out
                    rw [if_neg (by rw [B1.out]; simp), if_neg (by rw [B0.out]; simp), if_neg HZ.out, if_neg HBD.out, if_pos rfl, HV.out, if_pos hv, hby] at h1
                    exact h1)
                  clear hv hby HRS
                  have l0 := y0.toNat_lt
                  have l1 := y1.toNat_lt
                  have l2 := y2.toNat_lt
                  have l3 := y3.toNat_lt
                  go_wp2_with (first
                    | (go_at_call 39; refine (rBlank s[k] _).mono ?_; rintro e w1 ⟨rfl, rfl⟩)
                    | (at_builtin; refine wpApp8 rfl (.tmp 101) (.tmp 116) rfl w.heap.size _ pre rfl hown _ [y0, y1, y2, y3] 4 4 rfl rfl ?cc (by omega) hbs ?_))
                  case cc => exact four8 (by omega) (by omega) (by omega) (by omega)
                  intro v2 w2 hown2 hk2
                  go_wp2
                  go_roundw
                  case rel =>
                    exact ⟨k + 1, [], pre ++ [y0, y1, y2, y3], by go_num, rfl, rfl, by omega, by simp; omega, HRN.out, Digs.nil, hown2, hb.trans hk2.below⟩
                  case measure => simp [intOf]; omega
                · have hdec : decide ((4294967295 : Int) < (V : Int)) = true := by simpa using (show (4294967295 : Int) < (V : Int) by omega)
                  have HRN := hid (show (4, []) = R by
                    have h1 := HRS.out
                    rw [if_neg (by rw [B1.out]; simp), if_neg (by rw [B0.out]; simp), if_neg HZ.out, if_neg HBD.out, if_pos rfl, HV.out, if_neg hv] at h1
                    exact h1)
                  clear hv HRS
                  go_wp2_with (go_at_call 39; refine (rBlank s[k] _).mono ?_; rintro e w1 ⟨rfl, rfl⟩)
                  go_ret2
                  rw [← HRN.out]
                  exact ⟨rfl, hb⟩
              · have n6 : ((gl : Int) + 1 == 5) = false := by simpa using (show ¬ (gl : Int) + 1 = 5 by omega)
                go_wp2_with (go_at_call 39; refine (rBlank s[k] _).mono ?_; rintro e w1 ⟨rfl, rfl⟩)
                go_roundw
                case rel =>
                  refine ⟨k + 1, g ++ [s[k].toNat - 33], pre, by go_num, ?_, ?_, by omega, by omega, ?_, hD.snoc (by rw [HGL.out]; omega) (by omega), hown, hb⟩
                  · rw [List.length_append, HGL.out]; go_num
                  · rw [HV.out, hw3]
                  · have h1 := HRS.out
                    rw [if_neg (by rw [B1.out]; simp), if_neg (by rw [B0.out]; simp), if_neg HZ.out, if_neg HBD.out, if_neg h4] at h1
                    exact h1
                case measure => simp [intOf]; omega
    · have hke : k = s.size := by omega
      generalize hgl : g.length = gl at *
      generalize hvl : val85 g = vl at *
      go_wp2
      go_ret2
      have h1 := HR.out
      rw [hke, fiveTk_nil] at h1
      subst h1
      exact ⟨rfl, hb⟩
end Go.Proofs.Ytemegkdfenjefaa
