/-
  Filters of the program: digits to the base 85 are taken apart.
-/
import Derived.Test.YtemegkdfenjefaaQl
namespace Go.Proofs.Ytemegkdfenjefaa
open Go.RowKit
set_option maxRecDepth 100000

theorem fiveTk_step (s : ByteArray) (k : Nat) (g : List Nat) (b : List UInt8) (h : k < s.size) : fiveTk (s.data.toList.drop k) g b =
    if isBl s[k] then fiveTk (s.data.toList.drop (k + 1)) g b
    else if s[k] == 126 then (if (s.data.toList.drop (k + 1)).head? = some 62 then fiveEnd g b else (4, []))
    else if s[k] == 122 && g.length == 0 then fiveTk (s.data.toList.drop (k + 1)) g (b ++ [0, 0, 0, 0])
    else if s[k].toNat < 33 ∨ 117 < s[k].toNat then (4, [])
    else if g.length = 4 then (if val85 (g ++ [s[k].toNat - 33]) < 4294967296 then fiveTk (s.data.toList.drop (k + 1)) [] (b ++ byte4 (val85 (g ++ [s[k].toNat - 33]))) else (4, []))
    else fiveTk (s.data.toList.drop (k + 1)) (g ++ [s[k].toNat - 33]) b := by
  rw [List.drop_eq_getElem_cons (by simpa using h)]; rfl
theorem fiveTk_nil (s : ByteArray) (g : List Nat) (b : List UInt8) : fiveTk (s.data.toList.drop s.size) g b = (5, []) := by
  rw [List.drop_of_length_le (by simp)]; rfl
theorem pre62 (l : List UInt8) : Lib.hasPrefix l [62] = decide (l.head? = some 62) := by
  cases l with
  | nil => rfl
  | cons c l =>
    unfold Lib.hasPrefix
    rw [Bool.eq_iff_iff]
    simp [List.isPrefixOf]
    exact ⟨fun h => h.symm, fun h => h.symm⟩
theorem pBlankK (c : UInt8) (n : Int) (h : n = (c.toNat : Int)) (w : World) :
    Calls Try.prog 34 #[.int .u8 n] w fun e w' => e = .returned (.bool (isBl c)) ∧ w' = w := by
  subst h; exact pBlank c w
theorem pRestN (ds : Nat → Nat) (h : Nat) (B : Nat) (sv : Value) (xs : List UInt8) (w : World) (hd : ∀ i, i < 5 → ds i < 85) (hh : h ≤ 4) (hown : Own8 w B sv xs) (hB : B ≤ w.heap.size) (hl : xs.length ≤ 100000000) :
    Calls Try.prog 36 #[sv, .agg #[.int .u8 (ds 0 : Nat), .int .u8 (ds 1 : Nat), .int .u8 (ds 2 : Nat), .int .u8 (ds 3 : Nat), .int .u8 (ds 4 : Nat)], .int .i64 h] w fun e w' => ∃ v' : Value, e = .returned (.tuple #[v', errN (fiveEnd (digs ds h) xs).1]) ∧ Own8 w' B v' (fiveEnd (digs ds h) xs).2 ∧ Kept8 B w w' := pRest ds h B sv xs w hd hh hown hB hl
theorem upd_lt (ds : Nat → Nat) (j v : Nat) (hd : ∀ i, i < 5 → ds i < 85) (hv : v < 85) : ∀ i, i < 5 → upd ds j v i < 85 := by
  intro i hi; unfold upd; split
  · exact hv
  · exact hd i hi
theorem readR_cases (v : Nat) (xs : List UInt8) : (readR v 4 xs = (0, xs ++ byte4 v) ∧ v < 4294967296) ∨ (readR v 4 xs = (4, []) ∧ ¬ v < 4294967296) := by
  unfold readR
  by_cases h : v < 4294967296
  · rw [if_pos h]; exact .inl ⟨rfl, h⟩
  · rw [if_neg h]; exact .inr ⟨rfl, h⟩
theorem pPre62 (t : ByteArray) (b : Bool) (h : Lib.hasPrefix t.data.toList [62] = b) (w : World) :
    Calls Try.prog 35 #[.string t, .string ⟨#[62]⟩] w fun e w' => e = .returned (.bool b) ∧ w' = w := by
  subst h; exact Try.strings_HasPrefix t ⟨#[62]⟩ w
theorem digs_5 (ds : Nat → Nat) (v : Nat) : digs (upd ds 4 v) 5 = digs ds 4 ++ [v] := by
  rw [digs_succ, digs_upd _ _ _ _ (Nat.le_refl _)]; rfl
theorem pRead5ok (ds : Nat → Nat) (v : Nat) (x : Int) (B : Nat) (sv : Value) (xs : List UInt8) (w : World) (hx : x = v) (hd : ∀ i, i < 5 → ds i < 85) (hv : v < 85) (hown : Own8 w B sv xs) (hB : B ≤ w.heap.size) (hl : xs.length ≤ 100000000)
    (hq : readR (val85 (digs ds 4 ++ [v])) 4 xs = (0, xs ++ byte4 (val85 (digs ds 4 ++ [v])))) :
    Calls Try.prog 37 #[sv, .agg #[.int .u8 (ds 0 : Nat), .int .u8 (ds 1 : Nat), .int .u8 (ds 2 : Nat), .int .u8 (ds 3 : Nat), .int .u8 x], .int .i64 4] w fun e w' => ∃ v' : Value, e = .returned (.tuple #[v', .nilIface]) ∧ Own8 w' B v' (xs ++ byte4 (val85 (digs ds 4 ++ [v]))) ∧ Kept8 B w w' := by
  subst hx
  have h := pRead (upd ds 4 v) 4 B sv xs w (upd_lt ds 4 v hd hv) (by omega) hown hB hl
  rw [digs_5, hq] at h
  exact h
theorem pRead5bad (ds : Nat → Nat) (v : Nat) (x : Int) (B : Nat) (sv : Value) (xs : List UInt8) (w : World) (hx : x = v) (hd : ∀ i, i < 5 → ds i < 85) (hv : v < 85) (hown : Own8 w B sv xs) (hB : B ≤ w.heap.size) (hl : xs.length ≤ 100000000)
    (hq : readR (val85 (digs ds 4 ++ [v])) 4 xs = (4, [])) :
    Calls Try.prog 37 #[sv, .agg #[.int .u8 (ds 0 : Nat), .int .u8 (ds 1 : Nat), .int .u8 (ds 2 : Nat), .int .u8 (ds 3 : Nat), .int .u8 x], .int .i64 4] w fun e w' => ∃ v' : Value, e = .returned (.tuple #[v', .iface 37 (.int .i64 4)]) ∧ Kept8 B w w' := by
  subst hx
  have h := pRead (upd ds 4 v) 4 B sv xs w (upd_lt ds 4 v hd hv) (by omega) hown hB hl
  rw [digs_5, hq] at h
  exact h.mono (fun e w' ⟨v', h1, _, h3⟩ => ⟨v', h1, h3⟩)
/-- The digits that were read so far, in memory. -/
structure Five (w wr : World) (ds : Nat → Nat) (h : Nat) : Prop where
  at_ : At wr w.heap.size 53 (gcells ds)
  lt : ∀ i, i < 5 → ds i < 85
  le : h ≤ 4
set_option maxHeartbeats 2000000 in
theorem pTakeFive (s : ByteArray) (w : World) (hs : s.size ≤ 100000) :
    Calls Try.prog 24 #[.string s] w fun e w' => ∃ v', e = .returned (.tuple #[v', errN (fiveTk s.data.toList [] []).1]) ∧ Own8 w' w.heap.size v' (fiveTk s.data.toList [] []).2 ∧ Below w.heap.size w w' := by
  generalize hR : fiveTk s.data.toList [] [] = R
  have HR0 := hid hR
  clear hR
  go_enter Try.func24, Try.ntmps24
  go_wp2
  go_loopw [4, 6, 12] (fun bv hv i wr => ∃ (k : Nat) (ds : Nat → Nat) (h : Nat) (pre : List UInt8), i = .int .i64 k ∧ hv = .int .i64 h ∧ k ≤ s.size ∧ pre.length ≤ 4 * k ∧ fiveTk (s.data.toList.drop k) (digs ds h) pre = R ∧ Five w wr ds h ∧ Own8 wr w.heap.size bv pre ∧ Below w.heap.size w wr) (fun _ _ i _ => s.size - (intOf i).toNat)
  case atStart => exact ⟨0, fun _ => 0, 0, [], rfl, rfl, Nat.zero_le _, Nat.le_refl _, HR0.out, ⟨At.new _ _ _ rfl, fun _ _ => by omega, by omega⟩, Own8.nil _ _, (Below.refl _ _).alloc (Nat.le_refl _) _⟩
  case round =>
    clear HR0
    obtain ⟨k, ds, h, pre, rfl, rfl, hk, hpl, hR, hF, hown, hb⟩ := hrel
    have hbs := hb.size
    have HR := hid hR
    clear hR
    have hh := hF.le
    have n5 : ((h : Int) == 5) = false := by simpa using (show ¬ (h : Int) = 5 by omega)
    by_cases hlt : k < s.size
    · have HS := hid (fiveTk_step s k (digs ds h) pre hlt)
      rw [digs_len] at HS
      have hlt' : (k : Int) < s.size := by omega
      have hc := s[k].toNat_lt
      have HRS := hid (HS.out.symm.trans HR.out)
      clear HS HR
      cases b1 : isBl s[k]
      case true =>
        have B1 := hid b1
        go_wp2_with (go_at_call 34; refine (pBlank s[k] _).mono ?_; rintro e w1 ⟨rfl, rfl⟩)
        go_roundw
        case rel =>
          refine ⟨k + 1, ds, h, pre, by go_num, rfl, by omega, by omega, ?_, hF, hown, hb⟩
          have h1 := HRS.out
          rw [if_pos B1.out] at h1
          exact h1
        case measure => simp [intOf]; omega
      case false =>
        have B1 := hid b1
        cases b0 : (s[k] == 126)
        case true =>
          have B0 := hid b0
          have q0 : (s[k].toNat : Int) = 126 := by rw [eq_of_beq b0]; rfl
          have B2 := hid (show isBl 126 = false from rfl)
          have HPR := hid (pre62 (s.data.toList.drop (k + 1)))
          clear b0 b1
          cases b3 : Lib.hasPrefix (s.data.toList.drop (k + 1)) [62]
          · have B3 := hid b3
            clear b3
            go_wp2_with (first
              | (go_at_call 34; refine (pBlankK 126 _ rfl _).mono ?_; rintro e w1 ⟨rfl, rfl⟩; rw [B2.out])
              | (go_at_call 35; go_must (refine (pPre62 (s.extract (k + 1) s.size) false (by rw [ext_tail]; exact B3.out) _).mono ?_); rintro e w2 ⟨rfl, rfl⟩))
            go_ret2
            have h1 := HRS.out
            rw [if_neg (by rw [B1.out]; simp), if_pos B0.out, if_neg (by have := HPR.out; rw [B3.out] at this; simpa using this.symm)] at h1
            subst h1
            exact ⟨_, rfl, Own8.nil _ _, hb⟩
          · have B3 := hid b3
            clear b3
            have c0 : wr.cell? ⟨w.heap.size, 0, none⟩ = some (.int .u8 (ds 0 : Nat)) := hF.at_.cell 0
            have c1 : wr.cell? ⟨w.heap.size, 1, none⟩ = some (.int .u8 (ds 1 : Nat)) := hF.at_.cell 1
            have c2 : wr.cell? ⟨w.heap.size, 2, none⟩ = some (.int .u8 (ds 2 : Nat)) := hF.at_.cell 2
            have c3 : wr.cell? ⟨w.heap.size, 3, none⟩ = some (.int .u8 (ds 3 : Nat)) := hF.at_.cell 3
            have c4 : wr.cell? ⟨w.heap.size, 4, none⟩ = some (.int .u8 (ds 4 : Nat)) := hF.at_.cell 4
            go_wp2_with (first
              | (go_at_call 34; refine (pBlankK 126 _ rfl _).mono ?_; rintro e w1 ⟨rfl, rfl⟩; rw [B2.out])
              | (go_at_call 35; go_must (refine (pPre62 (s.extract (k + 1) s.size) true (by rw [ext_tail]; exact B3.out) _).mono ?_); rintro e w2 ⟨rfl, rfl⟩)
              | (go_at_call 36; go_must (refine (pRestN ds h w.heap.size _ pre _ hF.lt hF.le hown hbs (by omega)).mono ?_); rintro e w3 ⟨v3, rfl, hown3, hk3⟩))
            go_ret2
            have h1 := HRS.out
            rw [if_neg (by rw [B1.out]; simp), if_pos B0.out, if_pos (by have := HPR.out; rw [B3.out] at this; simpa using this.symm)] at h1
            subst h1
            exact ⟨_, rfl, hown3, hb.trans hk3.below⟩
        case false =>
          have B0 := hid b0
          have q0 : ((s[k].toNat : Int) == 126) = false := by rw [← b0]; exact beq_u8 s[k] 126
          clear b0
          by_cases hz : s[k] = 122 ∧ h = 0
          · obtain ⟨hz1, rfl⟩ := hz
            have q1 : (s[k].toNat : Int) = 122 := by rw [hz1]; rfl
            have B2 := hid (show isBl 122 = false from rfl)
            have Z1 := hid hz1
            clear hz1 b1 q0
            go_wp2_with (first
              | (go_at_call 34; refine (pBlankK 122 _ rfl _).mono ?_; rintro e w1 ⟨rfl, rfl⟩; rw [B2.out])
              | (at_builtin; refine wpApp8 rfl (.tmp 50) (.tmp 51) rfl w.heap.size _ pre rfl hown _ [0, 0, 0, 0] 4 4 rfl rfl rfl (by omega) hbs ?_; intro v2 w2 hown2 hk2))
            go_roundw
            case rel =>
              refine ⟨k + 1, ds, 0, pre ++ [0, 0, 0, 0], by go_num, rfl, by omega, by simp; omega, ?_, ⟨hk2.at (by decide) hF.at_, hF.lt, by omega⟩, hown2, hb.trans hk2.below⟩
              have h1 := HRS.out
              rw [if_neg (by rw [B1.out]; simp), if_neg (by rw [B0.out]; simp), if_pos (by rw [Z1.out]; rfl)] at h1
              exact h1
            case measure => simp [intOf]; omega
          · have HZ := hid (show ¬ ((s[k] == 122 && h == 0) = true) by simpa using hz)
            have hzz : ((s[k].toNat : Int) == 122) = false ∨ ((h : Int) == 0) = false := by
              by_cases e : s[k] = 122
              · exact .inr (by simpa using fun e' : h = 0 => hz ⟨e, e'⟩)
              · exact .inl (by rw [show (122 : Int) = ((122 : UInt8).toNat : Int) from rfl, beq_u8]; simpa using e)
            clear hz
            by_cases hbad : s[k].toNat < 33 ∨ 117 < s[k].toNat
            · have HBD := hid hbad
              rcases hzz with hzz | hzz
              all_goals
                go_wp2_with (go_at_call 34; refine (pBlank s[k] _).mono ?_; rintro e w1 ⟨rfl, rfl⟩)
                all_goals
                  go_ret2
                  have h1 := HRS.out
                  rw [if_neg (by rw [B1.out]; simp), if_neg (by rw [B0.out]; simp), if_neg HZ.out, if_pos HBD.out] at h1
                  subst h1
                  exact ⟨_, rfl, Own8.nil _ _, hb⟩
            · have HBD := hid hbad
              have lo : (33 : Int) ≤ s[k].toNat := by omega
              have hi : (s[k].toNat : Int) ≤ 117 := by omega
              have n122 : ((s[k].toNat : Int) == 122) = false := by simpa using (show ¬ (s[k].toNat : Int) = 122 by omega)
              clear hbad hzz
              have hcl := (hF.at_.cell h).trans (gcells_get ds h (by omega))
              have hfr := hF.at_.free h
              have hdl := hF.lt
              have HSET := hid (gcells_set ds h (s[k].toNat - 33) (by omega) wr w.heap.size _ hF.at_)
              rw [show (((s[k].toNat - 33 : Nat)) : Int) = (s[k].toNat : Int) - 33 by omega] at HSET
              have HUL := hid (upd_lt ds h (s[k].toNat - 33) hdl (by omega))
              have hown' := fun (o : Nat) (u : Value) => hown.other hF.at_ (by decide) o u
              by_cases h4 : h = 4
              · subst h4
                have c0 : wr.cell? ⟨w.heap.size, 0, none⟩ = some (.int .u8 (ds 0 : Nat)) := hF.at_.cell 0
                have c1 : wr.cell? ⟨w.heap.size, 1, none⟩ = some (.int .u8 (ds 1 : Nat)) := hF.at_.cell 1
                have c2 : wr.cell? ⟨w.heap.size, 2, none⟩ = some (.int .u8 (ds 2 : Nat)) := hF.at_.cell 2
                have c3 : wr.cell? ⟨w.heap.size, 3, none⟩ = some (.int .u8 (ds 3 : Nat)) := hF.at_.cell 3
                rcases readR_cases (val85 (digs ds 4 ++ [s[k].toNat - 33])) pre with ⟨hq, hv⟩ | ⟨hq, hv⟩
                · have HQ := hid hq
                  have HRN := hid (show fiveTk (s.data.toList.drop (k + 1)) [] (pre ++ byte4 (val85 (digs ds 4 ++ [s[k].toNat - 33]))) = R by
                    have h1 := HRS.out
                    rw [if_neg (by rw [B1.out]; simp), if_neg (by rw [B0.out]; simp), if_neg HZ.out, if_neg HBD.out, if_pos rfl, if_pos hv] at h1
                    exact h1)
                  clear hq hv HRS
                  go_wp2_with (first
                    | (go_at_call 34; refine (pBlank s[k] _).mono ?_; rintro e w1 ⟨rfl, rfl⟩)
                    | (go_at_call 37; go_must (refine (pRead5ok ds (s[k].toNat - 33) _ w.heap.size _ pre _ (by omega) hdl (by omega) (hown' _ _) (by simp; omega) (by omega) HQ.out).mono ?_); rintro e w3 ⟨v3, rfl, hown3, hk3⟩))
                  go_roundw
                  case rel =>
                    refine ⟨k + 1, upd ds 4 (s[k].toNat - 33), 0, _, by go_num, rfl, by omega, ?_, HRN.out, ⟨hk3.at (by decide) HSET.out, HUL.out, by omega⟩, hown3, (hb.setCell (p := ⟨w.heap.size, 4, none⟩) (Nat.le_refl _) _).trans hk3.below⟩
                    rw [List.length_append, byte4_len]; omega
                  case measure => simp [intOf]; omega
                · have HQ := hid hq
                  have HRN := hid (show (4, []) = R by
                    have h1 := HRS.out
                    rw [if_neg (by rw [B1.out]; simp), if_neg (by rw [B0.out]; simp), if_neg HZ.out, if_neg HBD.out, if_pos rfl, if_neg hv] at h1
                    exact h1)
                  clear hq hv HRS
                  go_wp2_with (first
                    | (go_at_call 34; refine (pBlank s[k] _).mono ?_; rintro e w1 ⟨rfl, rfl⟩)
                    | (go_at_call 37; go_must (refine (pRead5bad ds (s[k].toNat - 33) _ w.heap.size _ pre _ (by omega) hdl (by omega) (hown' _ _) (by simp; omega) (by omega) HQ.out).mono ?_); rintro e w3 ⟨v3, rfl, hk3⟩))
                  go_ret2
                  rw [← HRN.out]
                  exact ⟨_, rfl, Own8.nil _ _, (hb.setCell (p := ⟨w.heap.size, 4, none⟩) (Nat.le_refl _) _).trans hk3.below⟩
              · have n6 : ((h : Int) + 1 == 5) = false := by simpa using (show ¬ (h : Int) + 1 = 5 by omega)
                go_wp2_with (go_at_call 34; refine (pBlank s[k] _).mono ?_; rintro e w1 ⟨rfl, rfl⟩)
                go_roundw
                case rel =>
                  refine ⟨k + 1, upd ds h (s[k].toNat - 33), h + 1, pre, by go_num, by go_num, by omega, by omega, ?_, ⟨HSET.out, HUL.out, by omega⟩, hown' _ _, hb.setCell (p := ⟨w.heap.size, h, none⟩) (Nat.le_refl _) _⟩
                  have h1 := HRS.out
                  rw [if_neg (by rw [B1.out]; simp), if_neg (by rw [B0.out]; simp), if_neg HZ.out, if_neg HBD.out, if_neg h4] at h1
                  rw [digs_succ, digs_upd _ _ _ _ (Nat.le_refl _), show upd ds h (s[k].toNat - 33) h = s[k].toNat - 33 from if_pos rfl]
                  exact h1
                case measure => simp [intOf]; omega
    · have hke : k = s.size := by omega
      go_wp2
      go_ret2
      have h1 := HR.out
      rw [hke, fiveTk_nil] at h1
      subst h1
      exact ⟨_, rfl, Own8.nil _ _, hb⟩
end Go.Proofs.Ytemegkdfenjefaa
