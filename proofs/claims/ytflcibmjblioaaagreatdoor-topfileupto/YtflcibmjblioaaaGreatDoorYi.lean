/-
  Joined: Yg, Yh, Yi.
-/
import Derived.Test.YtflcibmjblioaaaGreatDoorYf
import Derived.Test.YtflcibmjblioaaaGreatDoorYc

/-
  The program's reader: strings in brackets.
-/
namespace Go.Proofs.YtflcibmjblioaaaGreatDoor
open Go.RowKit
set_option maxRecDepth 100000

/-- How far a reader has come, by memory. -/
def posOf (P : Nat) (w : World) : Nat := match w.cell? ⟨P, 1, none⟩ with | some (.int _ n) => n.toNat | _ => 0
theorem RdAt.pos {w : World} {P : Nat} {s : ByteArray} {k : Nat} (h : RdAt w P s k) : posOf P w = k := by
  unfold posOf; rw [h.c1]; simp
theorem litT_step (s : ByteArray) (j deep : Nat) (b : List UInt8) (h : j < s.size) : litT (s.data.toList.drop j) deep b j =
    if s[j] == 41 then (if deep = 1 then (0, b, j + 1) else litT (s.data.toList.drop (j + 1)) (deep - 1) (b ++ [s[j]]) (j + 1))
    else if s[j] == 40 then litT (s.data.toList.drop (j + 1)) (deep + 1) (b ++ [s[j]]) (j + 1)
    else if s[j] == 92 then
      match escL (s.data.toList.drop (j + 1)) with
      | none => (5, [], 0)
      | some (x, m) => litT (s.data.toList.drop (j + 1 + m)) deep (b ++ x) (j + 1 + m)
    else litT (s.data.toList.drop (j + 1)) deep (b ++ [s[j]]) (j + 1) := by
  rw [drop_at s j h, litT_cons]
  cases he : escL (s.data.toList.drop (j + 1)) with
  | none => rfl
  | some q =>
    obtain ⟨x, m⟩ := q
    simp only [List.drop_drop]
set_option maxHeartbeats 2000000 in
theorem yPlain (P : Nat) (s : ByteArray) (k : Nat) (w : World) (hR : RdAt w P s k) (hk : k < s.size) (hs : s.size ≤ 100000) :
    Calls Tryz.prog 91 #[.pointer (some ⟨P, 0, none⟩)] w fun e w' => ∃ v' j', e = .returned (.tuple #[v', errN (litT (s.data.toList.drop (k + 1)) 1 [] (k + 1)).1]) ∧ Own8 w' w.heap.size v' (litT (s.data.toList.drop (k + 1)) 1 [] (k + 1)).2.1 ∧ Moved P w w' s j' ∧ Hid ((litT (s.data.toList.drop (k + 1)) 1 [] (k + 1)).1 = 0 → j' = (litT (s.data.toList.drop (k + 1)) 1 [] (k + 1)).2.2 ∧ j' ≤ s.size) := by
  have hPl : P < w.heap.size := At.lt hR
  have c1 := hR.c1
  have f1 := At.free hR 1
  have hm0 := (Moved.refl hR).set (i := (k : Int) + 1) (j := k + 1) (by omega)
  generalize hRR : litT (s.data.toList.drop (k + 1)) 1 [] (k + 1) = R
  have HR0 := hid hRR
  clear hRR
  go_enter Tryz.func91, Tryz.ntmps91
  go_wp2
  go_loopw [4, 5] (fun bv ov wr => ∃ (j deep : Nat) (pre : List UInt8), ov = .int .i64 deep ∧ 1 ≤ deep ∧ deep ≤ j ∧ j ≤ s.size ∧ pre.length ≤ j ∧ litT (s.data.toList.drop j) deep pre j = R ∧ Own8 wr w.heap.size bv pre ∧ Moved P w wr s j) (fun _ _ wr => s.size - posOf P wr)
  case atStart => exact ⟨k + 1, 1, [], rfl, by omega, by omega, by omega, by simp, HR0.out, Own8.nil _ _, hm0⟩
  case round =>
    clear HR0 hm0 c1 f1
    obtain ⟨j, deep, pre, rfl, hd1, hdj, hj, hpl, hT, hown, hM⟩ := hrel
    have HT := hid hT
    clear hT
    have hbs := hM.keep.size
    have HPOS := hid hM.at_.pos
    by_cases hlt : j < s.size
    · have HS := hid (litT_step s j deep pre hlt)
      have HTS := hid (HS.out.symm.trans HT.out)
      clear HS HT
      have hc := s[j].toNat_lt
      by_cases h41 : s[j] = 41
      · have q41 : (s[j].toNat : Int) = 41 := by rw [h41]; rfl
        by_cases hd : deep = 1
        · have HRN := hid (show (0, pre, j + 1) = R by
            have h1 := HTS.out
            rw [if_pos (by simpa using h41), if_pos hd] at h1; exact h1)
          have hd' : (deep : Int) = 1 := by omega
          clear HTS h41
          go_wp2_with (go_at_call 142; refine (yTake P s j _ hM.at_ hlt hs).mono ?_; rintro e w2 ⟨rfl, hm2⟩)
          go_ret2
          rw [← HRN.out]
          exact ⟨_, j + 1, rfl, hown.moved hM.at_ hm2, hM.trans hm2, fun _ => ⟨rfl, by omega⟩⟩
        · have HRN := hid (show litT (s.data.toList.drop (j + 1)) (deep - 1) (pre ++ [41]) (j + 1) = R by
            have h1 := HTS.out
            rw [if_pos (by simpa using h41), if_neg hd, h41] at h1; exact h1)
          have hd' : (((deep : Int) - 1) == 0) = false := by simpa using (show ¬ (deep : Int) - 1 = 0 by omega)
          clear HTS h41
          go_wp2_with (first
            | (go_at_call 142; refine (yTake P s j _ hM.at_ hlt hs).mono ?_; rintro e w2 ⟨rfl, hm2⟩)
            | (at_builtin; refine wpApp8 rfl (.tmp 46) (.tmp 48) rfl w.heap.size _ pre rfl (hown.moved hM.at_ hm2) _ [41] 1 1 rfl rfl rfl (by omega) (Nat.le_trans hbs hm2.keep.size) ?_; intro v3 w3 hown3 hk3))
          go_roundw
          case rel =>
            exact ⟨j + 1, deep - 1, pre ++ [41], by go_num, by omega, by omega, by omega, by simp; omega, HRN.out, hown3, ((hM.toB'.trans (hm2.toB hbs)).kept hk3).to⟩
          case measure =>
            have e1 := ((hM.toB'.trans (hm2.toB hbs)).kept hk3).at_.pos
            have e2 := HPOS.out
            rw [e1, e2]; omega
      · have n41 : ((s[j].toNat : Int) == 41) = false := ne_u8 (k := 41) (by omega) h41
        by_cases h40 : s[j] = 40
        · have q40 : (s[j].toNat : Int) = 40 := by rw [h40]; rfl
          have HRN := hid (show litT (s.data.toList.drop (j + 1)) (deep + 1) (pre ++ [40]) (j + 1) = R by
            have h1 := HTS.out
            rw [if_neg (by simpa using h41), if_pos (by simpa using h40), h40] at h1; exact h1)
          have hd' : (((deep : Int) + 1) == 0) = false := by simpa using (show ¬ (deep : Int) + 1 = 0 by omega)
          clear HTS h41 h40 n41
          go_wp2_with (first
            | (go_at_call 142; refine (yTake P s j _ hM.at_ hlt hs).mono ?_; rintro e w2 ⟨rfl, hm2⟩)
            | (at_builtin; refine wpApp8 rfl (.tmp 46) (.tmp 48) rfl w.heap.size _ pre rfl (hown.moved hM.at_ hm2) _ [40] 1 1 rfl rfl rfl (by omega) (Nat.le_trans hbs hm2.keep.size) ?_; intro v3 w3 hown3 hk3))
          go_roundw
          case rel =>
            exact ⟨j + 1, deep + 1, pre ++ [40], by go_num, by omega, by omega, by omega, by simp; omega, HRN.out, hown3, ((hM.toB'.trans (hm2.toB hbs)).kept hk3).to⟩
          case measure =>
            have e1 := ((hM.toB'.trans (hm2.toB hbs)).kept hk3).at_.pos
            have e2 := HPOS.out
            rw [e1, e2]; omega
        · have n40 : ((s[j].toNat : Int) == 40) = false := ne_u8 (k := 40) (by omega) h40
          by_cases h92 : s[j] = 92
          · have q92 : (s[j].toNat : Int) = 92 := by rw [h92]; rfl
            have HRN := hid (show (match escL (s.data.toList.drop (j + 1)) with
                | none => (5, [], 0)
                | some (x, m) => litT (s.data.toList.drop (j + 1 + m)) deep (pre ++ x) (j + 1 + m)) = R by
              have h1 := HTS.out
              rw [if_neg (by simpa using h41), if_neg (by simpa using h40), if_pos (by simpa using h92)] at h1; exact h1)
            clear HTS h41 h40 h92 n41 n40
            cases he : escL (s.data.toList.drop (j + 1)) with
            | none =>
              have HRE := hid (show (5, [], 0) = R by have h1 := HRN.out; rw [he] at h1; exact h1)
              have hje : j + 1 = s.size := by
                by_cases h : j + 1 < s.size
                · rw [drop_at s (j + 1) h, escL_cons] at he
                  (repeat' split at he) <;> cases he
                · omega
              have HE := hid (fun (w : World) (sv : Value) (h : RdAt w P s (j + 1)) => yEscEnd P s sv w (by rw [← hje]; exact h) hs)
              clear HRN he
              go_wp2_with (first
                | (go_at_call 142; refine (yTake P s j _ hM.at_ hlt hs).mono ?_; rintro e w2 ⟨rfl, hm2⟩)
                | (go_at_call 143; refine (HE.out _ _ hm2.at_).mono ?_; rintro e w3 ⟨rfl, hm3⟩))
              go_ret2
              rw [← HRE.out]
              exact ⟨_, s.size, rfl, Own8.nil _ _, (hM.trans hm2).trans hm3, fun h => by cases h⟩
            | some q =>
              obtain ⟨x, m⟩ := q
              have HRE := hid (show litT (s.data.toList.drop (j + 1 + m)) deep (pre ++ x) (j + 1 + m) = R by have h1 := HRN.out; rw [he] at h1; exact h1)
              obtain ⟨hm1, hml, hxl⟩ := escL_le he
              have hml' : j + 1 + m ≤ s.size := by rw [List.length_drop, ba_len] at hml; omega
              have HE := hid (fun (w1 : World) (sv : Value) (h : RdAt w1 P s (j + 1)) (ho : Own8 w1 w.heap.size sv pre) (hb : w.heap.size ≤ w1.heap.size) => yEscape P s (j + 1) w.heap.size sv pre x m w1 h hs ho hb (by omega) he)
              clear HRN he hml
              go_wp2_with (first
                | (go_at_call 142; refine (yTake P s j _ hM.at_ hlt hs).mono ?_; rintro e w2 ⟨rfl, hm2⟩)
                | (go_at_call 143; refine (HE.out _ _ hm2.at_ (hown.moved hM.at_ hm2) (Nat.le_trans hbs hm2.keep.size)).mono ?_; rintro e w3 ⟨v3, rfl, hown3, hm3⟩))
              go_roundw
              case rel =>
                exact ⟨j + 1 + m, deep, pre ++ x, rfl, hd1, by omega, by omega, by rw [List.length_append]; omega, HRE.out, hown3, ((hM.toB'.trans (hm2.toB hbs)).trans hm3).to⟩
              case measure =>
                have e1 := hm3.at_.pos
                have e2 := HPOS.out
                rw [e1, e2]; omega
          · have n92 : ((s[j].toNat : Int) == 92) = false := ne_u8 (k := 92) (by omega) h92
            have HRN := hid (show litT (s.data.toList.drop (j + 1)) deep (pre ++ [s[j]]) (j + 1) = R by
              have h1 := HTS.out
              rw [if_neg (by simpa using h41), if_neg (by simpa using h40), if_neg (by simpa using h92)] at h1; exact h1)
            have hd' : ((deep : Int) == 0) = false := by simpa using (show ¬ (deep : Int) = 0 by omega)
            clear HTS h41 h40 h92
            go_wp2_with (first
              | (go_at_call 142; refine (yTake P s j _ hM.at_ hlt hs).mono ?_; rintro e w2 ⟨rfl, hm2⟩)
              | (at_builtin; refine wpApp8 rfl (.tmp 46) (.tmp 48) rfl w.heap.size _ pre rfl (hown.moved hM.at_ hm2) _ [s[j]] 1 1 rfl rfl rfl (by omega) (Nat.le_trans hbs hm2.keep.size) ?_; intro v3 w3 hown3 hk3))
            go_roundw
            case rel =>
              exact ⟨j + 1, deep, pre ++ [s[j]], rfl, hd1, by omega, by omega, by simp; omega, HRN.out, hown3, ((hM.toB'.trans (hm2.toB hbs)).kept hk3).to⟩
            case measure =>
              have e1 := ((hM.toB'.trans (hm2.toB hbs)).kept hk3).at_.pos
              have e2 := HPOS.out
              rw [e1, e2]; omega
    · have hje : j = s.size := by omega
      have HRE := hid (show (5, [], 0) = R by have h1 := HT.out; rw [drop_all s j (by omega), litT_nil] at h1; exact h1)
      have HE := hid (fun (w : World) (h : RdAt w P s j) => yTakeEnd P s w (by rw [← hje]; exact h))
      go_wp2_with (go_at_call 142; refine (HE.out _ hM.at_).mono ?_; rintro e w2 ⟨rfl, hm2⟩)
      go_ret2
      rw [← HRE.out]
      exact ⟨_, s.size, rfl, Own8.nil _ _, hM.trans hm2, fun h => by cases h⟩
end Go.Proofs.YtflcibmjblioaaaGreatDoor

/-
  The program's reader: strings of digits.
-/
namespace Go.Proofs.YtflcibmjblioaaaGreatDoor
open Go.RowKit
set_option maxRecDepth 100000

theorem Moved.setNew {P : Nat} {a b : World} {s : ByteArray} {k : Nat} (h : Moved P a b s k) {g : Nat} (hg : a.heap.size ≤ g) (hP : P < a.heap.size) (o : Nat) (u : Value) : Moved P a (b.setCell ⟨g, o, none⟩ u) s k :=
  ⟨⟨h.keep.os, h.keep.tape, h.keep.output, by simpa [World.setCell] using h.keep.size, fun i hi hp => (Below.heap_setCell _ _ _ _ (fun e => by
      have e' : g = i := by first | exact e | exact e.symm
      omega)).trans (h.keep.block i hi hp)⟩, (Below.heap_setCell _ _ _ _ (fun e => by
      have e' : g = P := by first | exact e | exact e.symm
      omega)).trans h.at_⟩
set_option maxHeartbeats 2000000 in
theorem yHex (P : Nat) (s : ByteArray) (k : Nat) (w : World) (hR : RdAt w P s k) (hk : k < s.size) (hs : s.size ≤ 100000) :
    Calls Tryz.prog 93 #[.pointer (some ⟨P, 0, none⟩)] w fun e w' => ∃ v' j', e = .returned (.tuple #[v', errN (hexTk (s.data.toList.drop (k + 1)) none [] (k + 1)).1]) ∧ Own8 w' w.heap.size v' (hexTk (s.data.toList.drop (k + 1)) none [] (k + 1)).2.1 ∧ Moved P w w' s j' ∧ Hid ((hexTk (s.data.toList.drop (k + 1)) none [] (k + 1)).1 = 0 → j' = (hexTk (s.data.toList.drop (k + 1)) none [] (k + 1)).2.2 ∧ j' ≤ s.size) := by
  have hPl : P < w.heap.size := At.lt hR
  have c1 := hR.c1
  have f1 := At.free hR 1
  have hm0 := (Moved.refl hR).set (i := (k : Int) + 1) (j := k + 1) (by omega)
  generalize hRR : hexTk (s.data.toList.drop (k + 1)) none [] (k + 1) = R
  have HR0 := hid hRR
  clear hRR
  go_enter Tryz.func93, Tryz.ntmps93
  go_wp2
  go_loopw [4, 5] (fun bv hv wr => ∃ (j : Nat) (p : Option Nat) (pre : List UInt8), j ≤ s.size ∧ hv = .bool (pbool p) ∧ pre.length ≤ j ∧ hexTk (s.data.toList.drop j) p pre j = R ∧ (∀ x, p = some x → x < 16) ∧ Own8 wr w.heap.size bv (pre ++ pend p) ∧ Moved P w wr s j) (fun _ _ wr => s.size - posOf P wr)
  case atStart => exact ⟨k + 1, none, [], by omega, rfl, by simp, HR0.out, (fun _ h => by cases h), Own8.nil _ _, hm0⟩
  case round =>
    clear HR0 hm0 c1 f1
    obtain ⟨j, p, pre, hj, rfl, hpl, hT, hp, hown, hM⟩ := hrel
    have HT := hid hT
    have HP := hid hp
    clear hT hp
    have hbs := hM.keep.size
    have HPOS := hid hM.at_.pos
    by_cases hlt : j < s.size
    · have HS := hid (hexTk_step s j p pre hlt)
      have HTS := hid (HS.out.symm.trans HT.out)
      clear HS HT
      have hc := s[j].toNat_lt
      by_cases h62 : s[j] = 62
      · have q0 : (s[j].toNat : Int) = 62 := by rw [h62]; rfl
        have HRE := hid (show (0, pre ++ pend p, j + 1) = R by
          have h1 := HTS.out
          rw [if_pos (by simpa using h62)] at h1; exact h1)
        have HX := hid (show hexV 62 = -1 from rfl)
        clear HTS h62
        go_wp2_with (first
          | (go_at_call 142; refine (yTake P s j _ hM.at_ hlt hs).mono ?_; rintro e w2 ⟨rfl, hm2⟩)
          | (go_at_call 148; refine (pHexK 62 _ (-1) rfl HX.out _).mono ?_; rintro e w3 ⟨rfl, rfl⟩))
        go_ret2
        rw [← HRE.out]
        exact ⟨_, j + 1, rfl, hown.moved hM.at_ hm2, hM.trans hm2, fun _ => ⟨rfl, by omega⟩⟩
      · have q0 : ((s[j].toNat : Int) == 62) = false := ne_u8 (k := 62) (by omega) h62
        cases b1 : isBl s[j]
        case true =>
          have B1 := hid b1
          have HRE := hid (show hexTk (s.data.toList.drop (j + 1)) p pre (j + 1) = R by
            have h1 := HTS.out
            rw [if_neg (by simpa using h62), if_pos b1] at h1; exact h1)
          clear HTS h62
          go_wp2_with (first
            | (go_at_call 142; refine (yTake P s j _ hM.at_ hlt hs).mono ?_; rintro e w2 ⟨rfl, hm2⟩)
            | (go_at_call 148; refine (pHexK s[j] _ _ rfl rfl _).mono ?_; rintro e w3 ⟨rfl, rfl⟩)
            | (go_at_call 78; refine (pBlank s[j] _).mono ?_; rintro e w4 ⟨rfl, rfl⟩))
          go_roundw
          case rel => exact ⟨j + 1, p, pre, by omega, rfl, by omega, HRE.out, HP.out, hown.moved hM.at_ hm2, hM.trans hm2⟩
          case measure =>
            have e1 := hm2.at_.pos
            have e2 := HPOS.out
            rw [e1, e2]; omega
        case false =>
          have B1 := hid b1
          by_cases hv : hexV s[j] < 0
          · have HRE := hid (show (4, [], 0) = R by
              have h1 := HTS.out
              rw [if_neg (by simpa using h62), if_neg (by rw [b1]; simp), if_pos hv] at h1; exact h1)
            clear HTS h62
            go_wp2_with (first
              | (go_at_call 142; refine (yTake P s j _ hM.at_ hlt hs).mono ?_; rintro e w2 ⟨rfl, hm2⟩)
              | (go_at_call 148; refine (pHexK s[j] _ _ rfl rfl _).mono ?_; rintro e w3 ⟨rfl, rfl⟩)
              | (go_at_call 78; refine (pBlank s[j] _).mono ?_; rintro e w4 ⟨rfl, rfl⟩))
            go_ret2
            rw [← HRE.out]
            exact ⟨_, j + 1, rfl, Own8.nil _ _, hM.trans hm2, fun h => by cases h⟩
          · have hvr := hexV_rng s[j]
            obtain ⟨d, hd⟩ : ∃ d : Nat, hexV s[j] = d := ⟨(hexV s[j]).toNat, by omega⟩
            have hd16 : d < 16 := by omega
            have HD := hid hd
            have HQ := hid (show (hexV s[j]).toNat = d by omega)
            have h62' := hid h62
            have HV0 := hid hv
            clear hvr hv h62 hd
            cases p with
            | none =>
              have HTN := hid (show hexTk (s.data.toList.drop (j + 1)) (some d) pre (j + 1) = R by
                have h1 := HTS.out
                rw [if_neg (by simpa using h62'.out), if_neg (by rw [B1.out]; simp), if_neg HV0.out] at h1
                simp only [HQ.out] at h1
                exact h1)
              clear HTS
              obtain ⟨y, q1, hy⟩ : ∃ y : UInt8, (y.toNat : Int) = 16 * (d : Int) ∧ pend (some d) = [y] := ⟨UInt8.ofNat (16 * d), by simp only [UInt8.toNat_ofNat']; omega, rfl⟩
              have HY := hid hy
              clear hy
              go_wp2_with (first
                | (go_at_call 142; refine (yTake P s j _ hM.at_ hlt hs).mono ?_; rintro e w2 ⟨rfl, hm2⟩)
                | (go_at_call 148; refine (pHexK s[j] _ d rfl HD.out _).mono ?_; rintro e w3 ⟨rfl, rfl⟩)
                | (go_at_call 78; refine (pBlank s[j] _).mono ?_; rintro e w4 ⟨rfl, rfl⟩)
                | (at_builtin; refine wpApp8 rfl (.tmp 26) (.tmp 30) rfl w.heap.size _ _ rfl (hown.moved hM.at_ hm2) _ [y] 1 1 rfl rfl ?cc (by simp [pend]; omega) (Nat.le_trans hbs hm2.keep.size) ?_))
              case cc => first | exact one8 q1 | (unfold byteV; rw [q1])
              intro v5 w5 hown5 hk5
              go_wp2
              go_roundw
              case rel =>
                refine ⟨j + 1, some d, pre, by omega, rfl, by omega, HTN.out, (fun x hx => by cases hx; exact hd16), ?_, ((hM.toB'.trans (hm2.toB hbs)).kept hk5).to⟩
                rw [HY.out]; simpa [pend] using hown5
              case measure =>
                have e1 := ((hM.toB'.trans (hm2.toB hbs)).kept hk5).at_.pos
                have e2 := HPOS.out
                rw [e1, e2]; omega
            | some x =>
              have hx := HP.out x rfl
              have HTN := hid (show hexTk (s.data.toList.drop (j + 1)) none (pre ++ [UInt8.ofNat (16 * x + d)]) (j + 1) = R by
                have h1 := HTS.out
                rw [if_neg (by simpa using h62'.out), if_neg (by rw [B1.out]; simp), if_neg HV0.out] at h1
                simp only [HQ.out] at h1
                exact h1)
              clear HTS
              obtain ⟨g, c, rfl, hBg, hg, _, _, _⟩ := own8_last (xs := pre) (x := UInt8.ofNat (16 * x)) hown
              have hor := or_nib x d hx hd16
              have e1 : ((UInt8.ofNat (16 * x)).toNat : Int) = 16 * (x : Int) := by simp only [UInt8.toNat_ofNat']; omega
              have e2 : ((UInt8.ofNat (16 * x + d)).toNat : Int) = 16 * (x : Int) + d := by simp only [UInt8.toNat_ofNat']; omega
              rw [e1, e2] at hor
              have HLAST := hid (fun (w2 : World) (h : Own8 w2 w.heap.size (.slice (some ⟨g, 0, none⟩) (pre.length + 1) c) (pre ++ [UInt8.ofNat (16 * x)])) =>
                show w2.cell? ⟨g, pre.length, none⟩ = some (.int .u8 (16 * (x : Int))) ∧ w2.frozen? ⟨g, pre.length, none⟩ = false ∧ Own8 (w2.setCell ⟨g, pre.length, none⟩ (.int .u8 (16 * (x : Int) + d))) w.heap.size (.slice (some ⟨g, 0, none⟩) (pre.length + 1) c) (pre ++ [UInt8.ofNat (16 * x + d)]) by
                  obtain ⟨g', c', heq, _, _, h1, h2, h3⟩ := own8_last (xs := pre) (x := UInt8.ofNat (16 * x)) h
                  simp only [Value.slice.injEq, Option.some.injEq, Addr.mk.injEq, true_and, and_true] at heq
                  obtain ⟨rfl, rfl⟩ := heq
                  rw [e1] at h1
                  have h4 := h3 (UInt8.ofNat (16 * x + d))
                  rw [e2] at h4
                  exact ⟨h1, h2, h4⟩)
              clear e1 e2
              have HOW := hid hown
              clear hown
              generalize hn : pre.length = n at *
              have HN := hid hn
              clear hn
              go_wp2_with (first
                | (go_at_call 142; refine (yTake P s j _ hM.at_ hlt hs).mono ?_; rintro e w2 ⟨rfl, hm2⟩; obtain ⟨hcl, hfr, hst⟩ := HLAST.out _ (HOW.out.moved hM.at_ hm2); have HST := hid hst; clear hst)
                | (go_at_call 148; refine (pHexK s[j] _ d rfl HD.out _).mono ?_; rintro e w3 ⟨rfl, rfl⟩)
                | (go_at_call 78; refine (pBlank s[j] _).mono ?_; rintro e w4 ⟨rfl, rfl⟩))
              have hmz := ((hM.trans hm2).setNew hBg hPl n (.int .u8 (16 * (x : Int) + d)))
              go_roundw
              case rel =>
                exact ⟨j + 1, none, pre ++ [UInt8.ofNat (16 * x + d)], by omega, rfl, by have := HN.out; simp; omega, HTN.out, (fun x hx => by cases hx), by simpa [pend] using HST.out, hmz⟩
              case measure =>
                have e1 := hmz.at_.pos
                have e2 := HPOS.out
                rw [e1, e2]; omega
    · have hje : j = s.size := by omega
      have HRE := hid (show (5, [], 0) = R by have h1 := HT.out; rw [hje, hexTk_end] at h1; exact h1)
      have HE := hid (fun (w : World) (h : RdAt w P s j) => yTakeEnd P s w (by rw [← hje]; exact h))
      go_wp2_with (go_at_call 142; refine (HE.out _ hM.at_).mono ?_; rintro e w2 ⟨rfl, hm2⟩)
      go_ret2
      rw [← HRE.out]
      exact ⟨_, s.size, rfl, Own8.nil _ _, hM.trans hm2, fun h => by cases h⟩
end Go.Proofs.YtflcibmjblioaaaGreatDoor

/-
  The program's reader: a text of bytes; values that hold no others.
-/
namespace Go.Proofs.YtflcibmjblioaaaGreatDoor
open Go.RowKit
set_option maxRecDepth 100000

/-- The cells of a value that holds no others. -/
def vc (k n : Int) (s : ByteArray) : Array Value := #[.int .i64 k, .int .i64 n, .string s, .slice none 0 0, .slice none 0 0]
def V0 (k n : Int) (s : ByteArray) : V := ⟨k, n, s, [], []⟩
theorem rep_vc (d : Nat) (w : World) (k n : Int) (s : ByteArray) (hs : s.size ≤ maxLen) : RepN (d + 1) w (V0 k n s) (vc k n s).toList :=
  ⟨none, none, 0, 0, rfl, ⟨hs, by simp [V0, maxLen], by simp [V0, maxLen]⟩, fun i x h => by simp [V0] at h, fun i q h => by simp [V0] at h⟩
/-- What text() makes of bytes: an error's number, and them. -/
def textR (e : Int) (xs : List UInt8) : Int := if e ≠ 0 then e else if 200 < xs.length then 2 else 0
def textV (e : Int) (xs : List UInt8) : Array Value := if textR e xs = 0 then vc 3 0 ⟨xs.toArray⟩ else vc 0 0 ⟨#[]⟩
theorem below_box (w : World) (o : Obj) : Below w.heap.size w (w.alloc o) := (Below.refl _ _).alloc (Nat.le_refl _) o
theorem below_set5 {B : Nat} {a w : World} (h : Below B a w) {b : Nat} (hb : B ≤ b) (v0 v1 v2 v3 v4 : Value) :
    Below B a (((((w.setCell ⟨b, 0, none⟩ v0).setCell ⟨b, 1, none⟩ v1).setCell ⟨b, 2, none⟩ v2).setCell ⟨b, 3, none⟩ v3).setCell ⟨b, 4, none⟩ v4) :=
  ((((h.setCell hb _).setCell hb _).setCell hb _).setCell hb _).setCell hb _
set_option maxHeartbeats 1000000 in
theorem yText (e : Int) (B : Nat) (v : Value) (xs : List UInt8) (w : World) (hown : Own8 w B v xs) :
    Calls Tryz.prog 90 #[v, errN e] w fun r w' => r = .returned (.tuple #[.agg (textV e xs), errN (textR e xs)]) ∧ Below w.heap.size w w' := by
  by_cases he : e = 0
  · subst he
    rw [errN_0]
    have hcv := fun (o : Obj) => own8_conv (hown.alloc o)
    obtain ⟨a, c, rfl⟩ := own8_slice hown
    by_cases h : (200 : Int) < xs.length
    · have HT := hid (show textR 0 xs = 2 by unfold textR; rw [if_neg (by simp), if_pos (by omega)])
      have HV := hid (show textV 0 xs = vc 0 0 ⟨#[]⟩ by unfold textV; rw [HT.out, if_neg (by decide)])
      rw [HT.out, HV.out]
      go_enter Tryz.func90, Tryz.ntmps90
      go_wp2
      refine bodyPost_ret (v := .tuple #[.agg (vc 0 0 ⟨#[]⟩), errN 2]) (by simp [results, Tryz.results90, go_sem]; exact ⟨rfl, rfl⟩) rfl ⟨rfl, ?_⟩
      first | exact below_box _ _ | exact below_set5 (below_box _ _) (Nat.le_refl _) _ _ _ _ _
    · have HT := hid (show textR 0 xs = 0 by unfold textR; rw [if_neg (by simp), if_neg (by omega)])
      have HV := hid (show textV 0 xs = vc 3 0 ⟨xs.toArray⟩ by unfold textV; rw [HT.out, if_pos rfl])
      rw [HT.out, HV.out]
      go_enter Tryz.func90, Tryz.ntmps90
      go_wp2
      refine bodyPost_ret (v := .tuple #[.agg (vc 3 0 ⟨xs.toArray⟩), errN 0]) (by simp [results, Tryz.results90, go_sem]; exact ⟨rfl, rfl⟩) rfl ⟨rfl, ?_⟩
      first | exact below_box _ _ | exact below_set5 (below_box _ _) (Nat.le_refl _) _ _ _ _ _
  · have HT := hid (show textR e xs = e by unfold textR; rw [if_pos he])
    have HV := hid (show textV e xs = vc 0 0 ⟨#[]⟩ by unfold textV; rw [HT.out, if_neg he])
    rw [HT.out, HV.out]
    have HE := hid (errN_pos he)
    rw [errN_pos he]
    unfold errV
    go_enter Tryz.func90, Tryz.ntmps90
    go_wp2
    refine bodyPost_ret (v := .tuple #[.agg (vc 0 0 ⟨#[]⟩), .iface 50 (.int .i64 e)]) (by simp [results, Tryz.results90, go_sem]; rfl) rfl ⟨rfl, ?_⟩
    first | exact below_box _ _ | exact below_set5 (below_box _ _) (Nat.le_refl _) _ _ _ _ _
end Go.Proofs.YtflcibmjblioaaaGreatDoor
