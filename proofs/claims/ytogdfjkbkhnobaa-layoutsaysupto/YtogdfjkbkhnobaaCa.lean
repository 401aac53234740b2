/-
  Signs of a text, plain.
-/
import Derived.Lib.ValidLaws
import Derived.Lib.MapLaws
import Derived.Lib.RuneBytes
namespace Go.Proofs.Ytogdfjkbkhnobaa
set_option maxRecDepth 100000

/-- A number that a sign has. -/
def okR (r : Nat) : Prop := r < 55296 ∨ 57344 ≤ r ∧ r ≤ 1114111
instance (r : Nat) : Decidable (okR r) := by unfold okR; infer_instance
/-- The bytes of a sign. -/
def encR (r : Nat) : List UInt8 :=
  if r < 128 then [UInt8.ofNat r]
  else if r < 2048 then [UInt8.ofNat (192 + r / 64), UInt8.ofNat (128 + r % 64)]
  else if r < 65536 then [UInt8.ofNat (224 + r / 4096), UInt8.ofNat (128 + r / 64 % 64), UInt8.ofNat (128 + r % 64)]
  else [UInt8.ofNat (240 + r / 262144), UInt8.ofNat (128 + r / 4096 % 64), UInt8.ofNat (128 + r / 64 % 64), UInt8.ofNat (128 + r % 64)]
/-- The bytes of signs. -/
def txtR (rs : List Nat) : List UInt8 := rs.flatMap encR
theorem encR_len (r : Nat) : 1 ≤ (encR r).length ∧ (encR r).length ≤ 4 := by
  unfold encR
  repeat' split
  all_goals simp
theorem ofNat_toNat {n : Nat} (h : n < 256) : (UInt8.ofNat n).toNat = n := by
  simp; omega
theorem encR_eq (r : Nat) (h : okR r) : Lib.encodeRune (r : Int) = encR r := by
  unfold okR at h
  unfold Lib.encodeRune encR
  by_cases a : r < 128
  · rw [if_pos a, Lib.encodeRuneZ_one (by omega) (by omega)]; simp
  rw [if_neg a]
  by_cases b : r < 2048
  · rw [if_pos b, Lib.encodeRuneZ_two (by omega) (by omega)]
    simp only [List.map_cons, List.map_nil]
    rw [show (192 + (r : Int) / 64).toNat = 192 + r / 64 by omega, show (128 + (r : Int) % 64).toNat = 128 + r % 64 by omega]
  rw [if_neg b]
  by_cases c : r < 65536
  · rw [if_pos c, Lib.encodeRuneZ_three (by omega)]
    simp only [List.map_cons, List.map_nil]
    rw [show (224 + (r : Int) / 4096).toNat = 224 + r / 4096 by omega, show (128 + (r : Int) / 64 % 64).toNat = 128 + r / 64 % 64 by omega, show (128 + (r : Int) % 64).toNat = 128 + r % 64 by omega]
  · rw [if_neg c, Lib.encodeRuneZ_four (by omega) (by omega)]
    simp only [List.map_cons, List.map_nil]
    rw [show (240 + (r : Int) / 262144).toNat = 240 + r / 262144 by omega, show (128 + (r : Int) / 4096 % 64).toNat = 128 + r / 4096 % 64 by omega, show (128 + (r : Int) / 64 % 64).toNat = 128 + r / 64 % 64 by omega, show (128 + (r : Int) % 64).toNat = 128 + r % 64 by omega]
set_option maxHeartbeats 2000000 in
/-- A sign's bytes are read as it, whatever stands behind. -/
theorem decode_enc (r : Nat) (h : okR r) (t : List UInt8) : Lib.decodeL (encR r ++ t) = (r, (encR r).length) := by
  unfold okR at h
  rw [Lib.decodeL_N]
  unfold encR
  by_cases a : r < 128
  · rw [if_pos a]
    simp only [List.cons_append, List.nil_append, List.getD_cons_zero]
    rw [ofNat_toNat (by omega)]
    unfold Lib.decodeN
    rw [if_pos a]; rfl
  rw [if_neg a]
  by_cases b : r < 2048
  · rw [if_pos b]
    simp only [List.cons_append, List.nil_append, List.getD_cons_zero, List.getD_cons_succ, List.length_cons]
    rw [ofNat_toNat (by omega), ofNat_toNat (by omega)]
    unfold Lib.decodeN
    rw [if_neg (by omega), if_pos (by omega), if_pos (by omega)]
    apply Prod.ext
    · show (192 + r / 64) % 32 * 64 + (128 + r % 64) % 64 = r; omega
    · rfl
  rw [if_neg b]
  by_cases c : r < 65536
  · rw [if_pos c]
    simp only [List.cons_append, List.nil_append, List.getD_cons_zero, List.getD_cons_succ, List.length_cons]
    rw [ofNat_toNat (by omega), ofNat_toNat (by omega), ofNat_toNat (by omega)]
    unfold Lib.decodeN
    have e : (224 + r / 4096) % 16 * 4096 + (128 + r / 64 % 64) % 64 * 64 + (128 + r % 64) % 64 = r := by omega
    rw [if_neg (by omega), if_neg (by omega), if_pos (by omega), e, if_pos (by omega)]
    rfl
  · rw [if_neg c]
    simp only [List.cons_append, List.nil_append, List.getD_cons_zero, List.getD_cons_succ, List.length_cons]
    rw [ofNat_toNat (by omega), ofNat_toNat (by omega), ofNat_toNat (by omega), ofNat_toNat (by omega)]
    unfold Lib.decodeN
    have e : (240 + r / 262144) % 8 * 262144 + (128 + r / 4096 % 64) % 64 * 4096 + (128 + r / 64 % 64) % 64 * 64 + (128 + r % 64) % 64 = r := by omega
    rw [if_neg (by omega), if_neg (by omega), if_neg (by omega), if_pos (by omega), e, if_pos (by omega)]
    rfl
theorem getD_back {l : List UInt8} {k : Nat} {t : List UInt8} : (t ++ l).getD (t.length + k) 0 = l.getD k 0 := by
  simp [List.getD, List.getElem?_append_right]
theorem starts_not {n : Nat} (h : n < 256) : Lib.runeStartB (UInt8.ofNat n) = (n / 64 != 2) := by
  unfold Lib.runeStartB
  rw [ofNat_toNat h]
set_option maxHeartbeats 2000000 in
/-- The last sign of a text, whatever stands ahead. -/
theorem decodeLast_enc (t : List UInt8) (r : Nat) (h : okR r) : Lib.decodeLastL (t ++ encR r) = (r, (encR r).length) := by
  have hne : t ++ encR r ≠ [] := by
    intro q
    have q1 := congrArg List.length q
    have q2 := (encR_len r).1
    rw [List.length_append] at q1
    simp only [List.length_nil] at q1; omega
  have hd := decode_enc r h []
  rw [List.append_nil] at hd
  unfold Lib.decodeLastL
  rw [if_neg hne]
  have key : ∀ (hhi : 128 ≤ ((t ++ encR r).getD ((t ++ encR r).length - 1) 0).toNat) (hst : Lib.lastStart (t ++ encR r) = t.length),
      (if ((t ++ encR r).getD ((t ++ encR r).length - 1) 0).toNat < 128 then (((t ++ encR r).getD ((t ++ encR r).length - 1) 0).toNat, 1) else
        let d := Lib.decodeL ((t ++ encR r).drop (Lib.lastStart (t ++ encR r)))
        if Lib.lastStart (t ++ encR r) + d.2 = (t ++ encR r).length then d else (Utf8.runeError, 1)) = (r, (encR r).length) := fun hhi hst => by
    rw [if_neg (by omega), hst, List.drop_left, hd]
    simp
  unfold okR at h
  by_cases a : r < 128
  · have e : encR r = [UInt8.ofNat r] := by unfold encR; rw [if_pos a]
    rw [e]
    have e2 : (t ++ [UInt8.ofNat r]).length - 1 = t.length + 0 := by simp
    rw [e2, getD_back]
    simp only [List.getD_cons_zero]
    rw [ofNat_toNat (by omega), if_pos a]; rfl
  by_cases b : r < 2048
  · have e : encR r = [UInt8.ofNat (192 + r / 64), UInt8.ofNat (128 + r % 64)] := by unfold encR; rw [if_neg a, if_pos b]
    rw [e] at key ⊢
    have e1 : (t ++ [UInt8.ofNat (192 + r / 64), UInt8.ofNat (128 + r % 64)]).length - 1 = t.length + 1 := by simp
    have e2 : (t ++ [UInt8.ofNat (192 + r / 64), UInt8.ofNat (128 + r % 64)]).length - 2 = t.length + 0 := by simp
    refine key ?_ ?_
    · rw [e1, getD_back]
      simp only [List.getD_cons_succ, List.getD_cons_zero]
      rw [ofNat_toNat (by omega)]; omega
    · unfold Lib.lastStart
      simp only
      rw [if_neg (by simp), e2, getD_back]
      simp only [List.getD_cons_zero]
      rw [starts_not (by omega), if_pos (by simp; omega)]; omega
  by_cases c : r < 65536
  · have e : encR r = [UInt8.ofNat (224 + r / 4096), UInt8.ofNat (128 + r / 64 % 64), UInt8.ofNat (128 + r % 64)] := by unfold encR; rw [if_neg a, if_neg b, if_pos c]
    rw [e] at key ⊢
    have e1 : (t ++ [UInt8.ofNat (224 + r / 4096), UInt8.ofNat (128 + r / 64 % 64), UInt8.ofNat (128 + r % 64)]).length - 1 = t.length + 2 := by simp
    have e2 : (t ++ [UInt8.ofNat (224 + r / 4096), UInt8.ofNat (128 + r / 64 % 64), UInt8.ofNat (128 + r % 64)]).length - 2 = t.length + 1 := by simp
    have e3 : (t ++ [UInt8.ofNat (224 + r / 4096), UInt8.ofNat (128 + r / 64 % 64), UInt8.ofNat (128 + r % 64)]).length - 3 = t.length + 0 := by simp
    refine key ?_ ?_
    · rw [e1, getD_back]
      simp only [List.getD_cons_succ, List.getD_cons_zero]
      rw [ofNat_toNat (by omega)]; omega
    · unfold Lib.lastStart
      simp only
      rw [if_neg (by simp), e2, getD_back]
      simp only [List.getD_cons_succ, List.getD_cons_zero]
      rw [starts_not (by omega), if_neg (by simp; omega), if_neg (by simp), e3, getD_back]
      simp only [List.getD_cons_zero]
      rw [starts_not (by omega), if_pos (by simp; omega)]; omega
  · have e : encR r = [UInt8.ofNat (240 + r / 262144), UInt8.ofNat (128 + r / 4096 % 64), UInt8.ofNat (128 + r / 64 % 64), UInt8.ofNat (128 + r % 64)] := by unfold encR; rw [if_neg a, if_neg b, if_neg c]
    rw [e] at key ⊢
    have e1 : (t ++ [UInt8.ofNat (240 + r / 262144), UInt8.ofNat (128 + r / 4096 % 64), UInt8.ofNat (128 + r / 64 % 64), UInt8.ofNat (128 + r % 64)]).length - 1 = t.length + 3 := by simp
    have e2 : (t ++ [UInt8.ofNat (240 + r / 262144), UInt8.ofNat (128 + r / 4096 % 64), UInt8.ofNat (128 + r / 64 % 64), UInt8.ofNat (128 + r % 64)]).length - 2 = t.length + 2 := by simp
    have e3 : (t ++ [UInt8.ofNat (240 + r / 262144), UInt8.ofNat (128 + r / 4096 % 64), UInt8.ofNat (128 + r / 64 % 64), UInt8.ofNat (128 + r % 64)]).length - 3 = t.length + 1 := by simp
    have e4 : (t ++ [UInt8.ofNat (240 + r / 262144), UInt8.ofNat (128 + r / 4096 % 64), UInt8.ofNat (128 + r / 64 % 64), UInt8.ofNat (128 + r % 64)]).length - 4 = t.length + 0 := by simp
    refine key ?_ ?_
    · rw [e1, getD_back]
      simp only [List.getD_cons_succ, List.getD_cons_zero]
      rw [ofNat_toNat (by omega)]; omega
    · have b2 : Lib.runeStartB ((t ++ [UInt8.ofNat (240 + r / 262144), UInt8.ofNat (128 + r / 4096 % 64), UInt8.ofNat (128 + r / 64 % 64), UInt8.ofNat (128 + r % 64)]).getD ((t ++ [UInt8.ofNat (240 + r / 262144), UInt8.ofNat (128 + r / 4096 % 64), UInt8.ofNat (128 + r / 64 % 64), UInt8.ofNat (128 + r % 64)]).length - 2) 0) = false := by
        rw [e2, getD_back]
        simp only [List.getD_cons_succ, List.getD_cons_zero]
        rw [starts_not (by omega)]; simp; omega
      have b3 : Lib.runeStartB ((t ++ [UInt8.ofNat (240 + r / 262144), UInt8.ofNat (128 + r / 4096 % 64), UInt8.ofNat (128 + r / 64 % 64), UInt8.ofNat (128 + r % 64)]).getD ((t ++ [UInt8.ofNat (240 + r / 262144), UInt8.ofNat (128 + r / 4096 % 64), UInt8.ofNat (128 + r / 64 % 64), UInt8.ofNat (128 + r % 64)]).length - 3) 0) = false := by
        rw [e3, getD_back]
        simp only [List.getD_cons_succ, List.getD_cons_zero]
        rw [starts_not (by omega)]; simp; omega
      have b4 : Lib.runeStartB ((t ++ [UInt8.ofNat (240 + r / 262144), UInt8.ofNat (128 + r / 4096 % 64), UInt8.ofNat (128 + r / 64 % 64), UInt8.ofNat (128 + r % 64)]).getD ((t ++ [UInt8.ofNat (240 + r / 262144), UInt8.ofNat (128 + r / 4096 % 64), UInt8.ofNat (128 + r / 64 % 64), UInt8.ofNat (128 + r % 64)]).length - 4) 0) = true := by
        rw [e4, getD_back]
        simp only [List.getD_cons_zero]
        rw [starts_not (by omega)]; simp; omega
      generalize t ++ [UInt8.ofNat (240 + r / 262144), UInt8.ofNat (128 + r / 4096 % 64), UInt8.ofNat (128 + r / 64 % 64), UInt8.ofNat (128 + r % 64)] = L at *
      unfold Lib.lastStart
      simp only [b2, b3, b4]
      rw [if_neg (by omega), if_neg (by decide), if_neg (by omega), if_neg (by decide), if_neg (by omega), if_pos trivial]
      omega

/-- Bytes that are no sign begin a text. -/
def Bad (l : List UInt8) : Prop := (Lib.decodeL l).1 = 65533 ∧ (Lib.decodeL l).2 = 1
instance (l : List UInt8) : Decidable (Bad l) := by unfold Bad; infer_instance
set_option maxHeartbeats 1000000 in
theorem decode_ok {l : List UInt8} (hne : l ≠ []) (hb : ¬ Bad l) : okR (Lib.decodeL l).1 ∧ l = encR (Lib.decodeL l).1 ++ l.drop (Lib.decodeL l).2 ∧ (encR (Lib.decodeL l).1).length = (Lib.decodeL l).2 := by
  have hl : 0 < l.length := List.length_pos_iff.2 hne
  have hok : okR (Lib.decodeL l).1 := by
    unfold Bad at hb
    rw [Lib.decodeL_N] at hb ⊢
    have k0 := (l.getD 0 0).toNat_lt
    have k1 := (l.getD 1 0).toNat_lt
    have k2 := (l.getD 2 0).toNat_lt
    have k3 := (l.getD 3 0).toNat_lt
    unfold okR
    unfold Lib.decodeN at hb ⊢
    repeat' split
    all_goals first | (simp only; omega) | (exfalso; simp_all; done)
  have e := Lib.encode_decode l hne hb
  rw [encR_eq _ hok] at e
  have hle := Lib.decodeL_le l hne
  refine ⟨hok, by rw [e, List.take_append_drop], by rw [e, List.length_take]; omega⟩

/-- The signs of a text; none: it is none. -/
def rnsF : Nat → List UInt8 → Option (List Nat)
  | 0, _ => some []
  | n + 1, l => if l = [] then some [] else if Bad l then none else (rnsF n (l.drop (Lib.decodeL l).2)).map fun t => (Lib.decodeL l).1 :: t
def rns (l : List UInt8) : Option (List Nat) := rnsF l.length l
theorem rnsF_nil : ∀ n, rnsF n [] = some []
  | 0 => rfl
  | _ + 1 => by simp [rnsF]
theorem rnsF_fuel : ∀ (n m : Nat) (l : List UInt8), l.length ≤ n → l.length ≤ m → rnsF n l = rnsF m l
  | 0, m, l, hn, _ => by
    have : l = [] := List.eq_nil_of_length_eq_zero (by omega)
    subst this
    rw [rnsF_nil, rnsF_nil]
  | n + 1, 0, l, _, hm => by
    have : l = [] := List.eq_nil_of_length_eq_zero (by omega)
    subst this
    rw [rnsF_nil, rnsF_nil]
  | n + 1, m + 1, l, hn, hm => by
    unfold rnsF
    by_cases hne : l = []
    · simp [hne]
    · have hw := Lib.decodeL_width l
      have hl : 0 < l.length := List.length_pos_iff.2 hne
      rw [if_neg hne, if_neg hne, rnsF_fuel n m (l.drop (Lib.decodeL l).2) (by rw [List.length_drop]; omega) (by rw [List.length_drop]; omega)]
theorem rns_nil : rns [] = some [] := rfl
theorem rns_step (l : List UInt8) (hne : l ≠ []) : rns l = if Bad l then none else (rns (l.drop (Lib.decodeL l).2)).map fun t => (Lib.decodeL l).1 :: t := by
  have hl : 0 < l.length := List.length_pos_iff.2 hne
  have hw := Lib.decodeL_width l
  obtain ⟨n, hn⟩ : ∃ n, l.length = n + 1 := ⟨l.length - 1, by omega⟩
  unfold rns
  rw [hn]
  show (if l = [] then _ else _) = _
  rw [if_neg hne, rnsF_fuel n (l.drop (Lib.decodeL l).2).length _ (by rw [List.length_drop]; omega) (Nat.le_refl _)]
theorem rns_cons (r : Nat) (h : okR r) (t : List UInt8) : rns (encR r ++ t) = (rns t).map fun q => r :: q := by
  have hd := decode_enc r h t
  have hne : encR r ++ t ≠ [] := fun q => by
    have q1 := congrArg List.length q
    have q2 := (encR_len r).1
    rw [List.length_append] at q1
    simp only [List.length_nil] at q1; omega
  have hb : ¬ Bad (encR r ++ t) := fun q => by
    unfold Bad at q
    rw [hd] at q
    obtain ⟨q1, q2⟩ := q
    simp only at q1 q2
    subst q1
    revert q2; decide
  rw [rns_step _ hne, if_neg hb, hd]
  simp
theorem rns_txt : ∀ (rs : List Nat), (∀ r ∈ rs, okR r) → rns (txtR rs) = some rs
  | [], _ => rfl
  | r :: rs, h => by
    show rns (encR r ++ txtR rs) = _
    rw [rns_cons r (h r (by simp)), rns_txt rs (fun q hq => h q (by simp [hq]))]; rfl
theorem rns_app : ∀ (rs : List Nat) (t : List UInt8), (∀ r ∈ rs, okR r) → rns (txtR rs ++ t) = (rns t).map fun q => rs ++ q
  | [], t, _ => by show rns t = _; cases rns t <;> rfl
  | r :: rs, t, h => by
    show rns ((encR r ++ txtR rs) ++ t) = _
    rw [List.append_assoc, rns_cons r (h r (by simp)), rns_app rs t (fun q hq => h q (by simp [hq]))]
    cases rns t <;> rfl
theorem rns_some : ∀ (n : Nat) (l : List UInt8) (rs : List Nat), l.length ≤ n → rns l = some rs → (∀ r ∈ rs, okR r) ∧ l = txtR rs
  | n, l, rs, hn, h => by
    by_cases hne : l = []
    · subst hne
      rw [rns_nil] at h
      injection h with h
      subst h
      exact ⟨fun _ q => by simp at q, rfl⟩
    · rw [rns_step l hne] at h
      by_cases hb : Bad l
      · rw [if_pos hb] at h; cases h
      · rw [if_neg hb] at h
        obtain ⟨h1, h2, h3⟩ := decode_ok hne hb
        have hw := Lib.decodeL_width l
        have hl : 0 < l.length := List.length_pos_iff.2 hne
        match n, hn with
        | 0, hn => omega
        | n + 1, hn =>
          cases hr : rns (l.drop (Lib.decodeL l).2) with
          | none => rw [hr] at h; cases h
          | some q =>
            rw [hr] at h
            injection h with h
            subst h
            obtain ⟨i1, i2⟩ := rns_some n (l.drop (Lib.decodeL l).2) q (by rw [List.length_drop]; omega) hr
            refine ⟨fun x hx => ?_, ?_⟩
            · rcases List.mem_cons.1 hx with rfl | hx
              · exact h1
              · exact i1 x hx
            · show l = encR (Lib.decodeL l).1 ++ txtR q
              rw [← i2]; exact h2
theorem valid_rns : ∀ (n : Nat) (l : List UInt8), l.length ≤ n → Lib.validD l = (rns l).isSome
  | n, l, hn => by
    by_cases hne : l = []
    · subst hne; rfl
    · have hw := Lib.decodeL_width l
      have hl : 0 < l.length := List.length_pos_iff.2 hne
      rw [Lib.validD_step l hne, rns_step l hne]
      by_cases hb : Bad l
      · rw [if_pos hb]; unfold Bad at hb; rw [if_pos hb]; rfl
      · rw [if_neg hb]
        have hb' := hb
        unfold Bad at hb'
        rw [if_neg hb']
        match n, hn with
        | 0, hn => omega
        | n + 1, hn =>
          rw [valid_rns n (l.drop (Lib.decodeL l).2) (by rw [List.length_drop]; omega)]
          cases rns (l.drop (Lib.decodeL l).2) <;> rfl
theorem rns_len : ∀ (rs : List Nat), rs.length ≤ (txtR rs).length ∧ (txtR rs).length ≤ 4 * rs.length
  | [] => ⟨Nat.le_refl _, Nat.le_refl _⟩
  | r :: rs => by
    have ih := rns_len rs
    have h := encR_len r
    show rs.length + 1 ≤ (encR r ++ txtR rs).length ∧ (encR r ++ txtR rs).length ≤ 4 * (rs.length + 1)
    rw [List.length_append]
    omega
theorem txtR_app (a b : List Nat) : txtR (a ++ b) = txtR a ++ txtR b := by unfold txtR; rw [List.flatMap_append]
/-- A text that is not empty: its last sign. -/
theorem rns_last {l : List UInt8} {rs : List Nat} (h : rns l = some rs) (hne : l ≠ []) : ∃ (a : List Nat) (r : Nat), rs = a ++ [r] ∧ okR r ∧ (∀ x ∈ a, okR x) ∧ l = txtR a ++ encR r ∧ Lib.decodeLastL l = (r, (encR r).length) := by
  obtain ⟨h1, h2⟩ := rns_some _ l rs (Nat.le_refl _) h
  have hrs : rs ≠ [] := fun q => hne (by rw [h2, q]; rfl)
  obtain ⟨a, r, rfl⟩ : ∃ a r, rs = a ++ [r] := ⟨rs.dropLast, rs.getLast hrs, (List.dropLast_concat_getLast hrs).symm⟩
  have e : l = txtR a ++ encR r := by rw [h2, txtR_app]; simp [txtR]
  exact ⟨a, r, rfl, h1 r (by simp), fun x hx => h1 x (by simp [hx]), e, by rw [e]; exact decodeLast_enc _ r (h1 r (by simp))⟩
end Go.Proofs.Ytogdfjkbkhnobaa
