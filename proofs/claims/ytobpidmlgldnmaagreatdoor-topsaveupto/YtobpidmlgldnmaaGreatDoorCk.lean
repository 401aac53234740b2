/-
  Joined: Ci, Cj, Ck.
-/
import Derived.Test.YtobpidmlgldnmaaGreatDoorCh

/-
  The signs of a text: the answer's.
-/
namespace Go.Proofs.YtobpidmlgldnmaaGreatDoor
open Go.RowKit
set_option maxRecDepth 100000
attribute [local go_sem ↓] Go.wp_at_zero Go.wp_at_succ

/-- What stands at a place of a string. -/
def at0 (s : ByteArray) (p : Nat) : Nat := (s.get! p).toNat
theorem dec_at (s : ByteArray) (p : Nat) : Lib.decodeL (s.data.toList.drop p) = Lib.decodeN (s.size - p) (at0 s p) (at0 s (p + 1)) (at0 s (p + 2)) (at0 s (p + 3)) := by
  rw [Lib.decodeL_drop, Lib.decode_at]; rfl
theorem at0_lt (s : ByteArray) (p : Nat) : at0 s p < 256 := (s.get! p).toNat_lt
theorem at0_eq (s : ByteArray) (p : Nat) (h : p < s.size) : (s[p].toNat : Int) = at0 s p := by
  unfold at0
  rw [Utf8W.get!_of_lt s p h]
/-- The four ways in which a sign's bytes may be. -/
theorem dec1 {n b0 b1 b2 b3 : Nat} (h : b0 < 128) : Lib.decodeN n b0 b1 b2 b3 = (b0, 1) := by unfold Lib.decodeN; rw [if_pos h]
theorem decBad {n b0 b1 b2 b3 : Nat} (h : 128 ≤ b0 ∧ b0 < 194 ∨ 245 ≤ b0 ∧ b0 < 256) : Lib.decodeN n b0 b1 b2 b3 = (65533, 1) := Lib.decodeN_bad n b0 b1 b2 b3 h
theorem dec2 {n b0 b1 b2 b3 : Nat} (h : 194 ≤ b0) (h' : b0 < 224) (hn : 1 < n) (h1 : 128 ≤ b1) (h1' : b1 ≤ 191) : Lib.decodeN n b0 b1 b2 b3 = (64 * (b0 - 192) + b1 - 128, 2) := by
  unfold Lib.decodeN
  rw [if_neg (by omega), if_pos (by omega), if_pos (by omega)]
  apply Prod.ext <;> simp only <;> omega
theorem dec2b {n b0 b1 b2 b3 : Nat} (h : 194 ≤ b0) (h' : b0 < 224) (hb : b1 < 256) (h1 : ¬ 1 < n ∨ b1 < 128 ∨ 191 < b1) : Lib.decodeN n b0 b1 b2 b3 = (65533, 1) := by
  unfold Lib.decodeN
  rw [if_neg (by omega), if_neg (by omega), if_neg (by omega), if_neg (by omega)]
set_option maxHeartbeats 1000000 in
theorem dec3 {n b0 b1 b2 b3 : Nat} (h : 224 ≤ b0) (h' : b0 < 240) (hn : 2 < n) (h1 : 128 ≤ b1) (h1' : b1 ≤ 191) (h2 : 128 ≤ b2) (h2' : b2 ≤ 191) (r : Nat) (hr : r = 64 * (64 * (b0 - 224) + b1 - 128) + b2 - 128) : Lib.decodeN n b0 b1 b2 b3 = if r < 2048 ∨ 55295 < r ∧ r < 57344 then (65533, 1) else (r, 3) := by
  unfold Lib.decodeN
  have e : b0 % 16 * 4096 + b1 % 64 * 64 + b2 % 64 = r := by omega
  rw [if_neg (by omega), if_neg (by omega), if_pos (by omega), e]
  by_cases c : r < 2048 ∨ 55295 < r ∧ r < 57344
  · rw [if_pos c, if_neg (by omega)]
  · rw [if_neg c, if_pos (by omega)]
theorem dec3b {n b0 b1 b2 b3 : Nat} (h : 224 ≤ b0) (h' : b0 < 240) (hb : b1 < 256) (hb2 : b2 < 256) (h1 : ¬ 2 < n ∨ b1 < 128 ∨ 191 < b1 ∨ b2 < 128 ∨ 191 < b2) : Lib.decodeN n b0 b1 b2 b3 = (65533, 1) := by
  unfold Lib.decodeN
  rw [if_neg (by omega), if_neg (by omega), if_neg (by omega), if_neg (by omega)]
set_option maxHeartbeats 1000000 in
theorem dec4 {n b0 b1 b2 b3 : Nat} (h : 240 ≤ b0) (h' : b0 < 245) (hn : 3 < n) (h1 : 128 ≤ b1) (h1' : b1 ≤ 191) (h2 : 128 ≤ b2) (h2' : b2 ≤ 191) (h3 : 128 ≤ b3) (h3' : b3 ≤ 191) (r : Nat) (hr : r = 64 * (64 * (64 * (b0 - 240) + b1 - 128) + b2 - 128) + b3 - 128) : Lib.decodeN n b0 b1 b2 b3 = if r < 65536 ∨ 1114111 < r then (65533, 1) else (r, 4) := by
  unfold Lib.decodeN
  have e : b0 % 8 * 262144 + b1 % 64 * 4096 + b2 % 64 * 64 + b3 % 64 = r := by omega
  rw [if_neg (by omega), if_neg (by omega), if_neg (by omega), if_pos (by omega), e]
  by_cases c : r < 65536 ∨ 1114111 < r
  · rw [if_pos c, if_neg (by omega)]
  · rw [if_neg c, if_pos (by omega)]
theorem dec4b {n b0 b1 b2 b3 : Nat} (h : 240 ≤ b0) (h' : b0 < 245) (hb : b1 < 256) (hb2 : b2 < 256) (hb3 : b3 < 256) (h1 : ¬ 3 < n ∨ b1 < 128 ∨ 191 < b1 ∨ b2 < 128 ∨ 191 < b2 ∨ b3 < 128 ∨ 191 < b3) : Lib.decodeN n b0 b1 b2 b3 = (65533, 1) := by
  unfold Lib.decodeN
  rw [if_neg (by omega), if_neg (by omega), if_neg (by omega), if_neg (by omega)]
/-- What the answer makes of a sign's bytes so far. -/
def accR (s : ByteArray) (p base : Nat) : Nat → Nat
  | 0 => base
  | j + 1 => 64 * accR s p base j + at0 s (p + j + 1) - 128
/-- The answer's step: how many bytes more, and where it begins. -/
def leadN (c : Nat) : Option (Nat × Nat) := if c < 128 then some (0, c) else if 194 ≤ c ∧ c < 224 then some (1, c - 192) else if 224 ≤ c ∧ c < 240 then some (2, c - 224) else if 240 ≤ c ∧ c < 245 then some (3, c - 240) else none
/-- Which numbers are no sign's, of so many bytes more. -/
def badR (n r : Nat) : Prop := n = 2 ∧ r < 2048 ∨ n = 3 ∧ r < 65536 ∨ 1114111 < r ∨ 55295 < r ∧ r < 57344
theorem step_none {s : ByteArray} {p : Nat} (h : leadN (at0 s p) = none) : Bad (s.data.toList.drop p) := by
  have hl := at0_lt s p
  unfold Bad
  rw [dec_at, decBad (by unfold leadN at h; repeat' split at h
                         all_goals first | (cases h; done) | omega)]
  exact ⟨rfl, rfl⟩
theorem accR_le (s : ByteArray) (p base : Nat) : ∀ j, accR s p base j + 3 ≤ 64 ^ j * (base + 3)
  | 0 => by simp [accR]
  | j + 1 => by
    have ih := accR_le s p base j
    have h := at0_lt s (p + j + 1)
    show 64 * accR s p base j + at0 s (p + j + 1) - 128 + 3 ≤ _
    rw [Nat.pow_succ, Nat.mul_comm (64 ^ j) 64, Nat.mul_assoc]
    omega
theorem lead_cases {c n base : Nat} (h : leadN c = some (n, base)) : (n = 0 ∧ base = c ∧ c < 128) ∨ (n = 1 ∧ base = c - 192 ∧ 194 ≤ c ∧ c < 224) ∨ (n = 2 ∧ base = c - 224 ∧ 224 ≤ c ∧ c < 240) ∨ (n = 3 ∧ base = c - 240 ∧ 240 ≤ c ∧ c < 245) := by
  unfold leadN at h
  repeat' split at h
  all_goals first | (cases h; done) | (injection h with h; injection h with h1 h2; omega)
theorem bad_of {s : ByteArray} {p : Nat} (h : Lib.decodeN (s.size - p) (at0 s p) (at0 s (p + 1)) (at0 s (p + 2)) (at0 s (p + 3)) = (65533, 1)) : Bad (s.data.toList.drop p) := by
  unfold Bad; rw [dec_at, h]; exact ⟨rfl, rfl⟩
theorem step_short {s : ByteArray} {p n base : Nat} (h : leadN (at0 s p) = some (n, base)) (hp : p < s.size) (hs : s.size ≤ p + n) : Bad (s.data.toList.drop p) := by
  have l1 := at0_lt s (p + 1); have l2 := at0_lt s (p + 2); have l3 := at0_lt s (p + 3)
  rcases lead_cases h with ⟨rfl, _, _⟩ | ⟨rfl, _, a, b⟩ | ⟨rfl, _, a, b⟩ | ⟨rfl, _, a, b⟩
  · omega
  · exact bad_of (dec2b a b l1 (.inl (by omega)))
  · exact bad_of (dec3b a b l1 l2 (.inl (by omega)))
  · exact bad_of (dec4b a b l1 l2 l3 (.inl (by omega)))
theorem step_cont {s : ByteArray} {p n base k : Nat} (h : leadN (at0 s p) = some (n, base)) (h1 : 1 ≤ k) (h2 : k ≤ n) (hc : at0 s (p + k) < 128 ∨ 191 < at0 s (p + k)) : Bad (s.data.toList.drop p) := by
  have l1 := at0_lt s (p + 1); have l2 := at0_lt s (p + 2); have l3 := at0_lt s (p + 3)
  rcases lead_cases h with ⟨rfl, _, _⟩ | ⟨rfl, _, a, b⟩ | ⟨rfl, _, a, b⟩ | ⟨rfl, _, a, b⟩
  · omega
  · obtain rfl : k = 1 := by omega
    exact bad_of (dec2b a b l1 (.inr hc))
  · rcases (by omega : k = 1 ∨ k = 2) with rfl | rfl
    · exact bad_of (dec3b a b l1 l2 (by omega))
    · exact bad_of (dec3b a b l1 l2 (by omega))
  · rcases (by omega : k = 1 ∨ k = 2 ∨ k = 3) with rfl | rfl | rfl
    · exact bad_of (dec4b a b l1 l2 l3 (by omega))
    · exact bad_of (dec4b a b l1 l2 l3 (by omega))
    · exact bad_of (dec4b a b l1 l2 l3 (by omega))
instance (n r : Nat) : Decidable (badR n r) := by unfold badR; infer_instance
theorem step_dec {s : ByteArray} {p n base : Nat} (h : leadN (at0 s p) = some (n, base)) (hs : p + n < s.size) (hc : ∀ k, 1 ≤ k → k ≤ n → 128 ≤ at0 s (p + k) ∧ at0 s (p + k) ≤ 191) :
    Lib.decodeL (s.data.toList.drop p) = if badR n (accR s p base n) then (65533, 1) else (accR s p base n, n + 1) := by
  rw [dec_at]
  rcases lead_cases h with ⟨rfl, rfl, a⟩ | ⟨rfl, rfl, a, b⟩ | ⟨rfl, rfl, a, b⟩ | ⟨rfl, rfl, a, b⟩
  · rw [dec1 a, if_neg (by unfold badR accR; omega)]; rfl
  · obtain ⟨c1, c2⟩ := hc 1 (by omega) (by omega)
    rw [dec2 a b (by omega) c1 c2, if_neg (by simp only [badR, accR, Nat.add_zero]; omega)]; rfl
  · obtain ⟨c1, c2⟩ := hc 1 (by omega) (by omega)
    obtain ⟨c3, c4⟩ := hc 2 (by omega) (by omega)
    rw [dec3 a b (by omega) c1 c2 c3 c4 (accR s p (at0 s p - 224) 2) rfl]
    have hu : accR s p (at0 s p - 224) 2 ≤ 65535 := by show 64 * (64 * (at0 s p - 224) + at0 s (p + 1) - 128) + at0 s (p + 2) - 128 ≤ 65535; omega
    generalize accR s p (at0 s p - 224) 2 = r at *
    by_cases q : r < 2048 ∨ 55295 < r ∧ r < 57344
    · rw [if_pos q, if_pos (by unfold badR; omega)]
    · rw [if_neg q, if_neg (by unfold badR; omega)]
  · obtain ⟨c1, c2⟩ := hc 1 (by omega) (by omega)
    obtain ⟨c3, c4⟩ := hc 2 (by omega) (by omega)
    obtain ⟨c5, c6⟩ := hc 3 (by omega) (by omega)
    rw [dec4 a b (by omega) c1 c2 c3 c4 c5 c6 (accR s p (at0 s p - 240) 3) rfl]
    generalize accR s p (at0 s p - 240) 3 = r at *
    by_cases q : r < 65536 ∨ 1114111 < r
    · rw [if_pos q, if_pos (by unfold badR; omega)]
    · rw [if_neg q, if_neg (by unfold badR; omega)]
set_option maxHeartbeats 2000000 in
theorem runes_says (s : ByteArray) (w : World) (hs : s.size ≤ 100000) :
    Calls Tryz.prog 53 #[.string s] w fun e w' => ((rns s.data.toList = none ∧ e = .returned (.tuple #[.slice none 0 0, .bool false])) ∨ ∃ (rs : List Nat) (v : Value), rns s.data.toList = some rs ∧ e = .returned (.tuple #[v, .bool true]) ∧ Own64 w' w.heap.size v rs) ∧ Below w.heap.size w w' := by
  go_enter Tryz.func53, Tryz.ntmps53
  go_wp2_with fail
  go_loopw [4, 5] (fun t i wr => ∃ (pos : Nat) (a : List Nat), i = .int .i64 pos ∧ a.length ≤ pos ∧ pos ≤ s.size ∧ Hid (rns s.data.toList = (rns (s.data.toList.drop pos)).map fun q => a ++ q) ∧ Own64 wr w.heap.size t a ∧ Below w.heap.size w wr) (fun _ i _ => s.size - (intOf i).toNat)
  case atStart => exact ⟨0, [], rfl, Nat.le_refl _, Nat.zero_le _, by rw [List.drop_zero]; cases rns s.data.toList <;> rfl, Own64.nil _ _, Below.refl _ _⟩
  case round =>
    obtain ⟨pos, a, rfl, ha, hpl, HR, hown, hB⟩ := hrel
    have hBs := hB.size
    by_cases hp : pos < s.size
    · have hp' : (pos : Int) < s.size := by omega
      have h0 := at0_eq s pos hp
      have hlt := at0_lt s pos
      have hlt' : (at0 s pos : Int) < 256 := by omega
      have hne : s.data.toList.drop pos ≠ [] := fun q => by
        have := congrArg List.length q
        rw [List.length_drop] at this
        have h2 : s.data.toList.length = s.size := by simp
        simp only [List.length_nil] at this; omega
      have HB := hid (fun (q : Bad (s.data.toList.drop pos)) => show rns s.data.toList = none by rw [HR.out, rns_step _ hne, if_pos q]; rfl)
      go_upto_block 2 with fail
      go_cut [7, 8] from 20 to 49 (fun n r wx => ∃ n' b' : Nat, n = .int .i64 n' ∧ r = .int .i64 b' ∧ leadN (at0 s pos) = some (n', b') ∧ wx = wr)
      case first =>
        by_cases c1 : at0 s pos < 128
        · have c1' : (at0 s pos : Int) < 128 := by omega
          have HL := hid (show leadN (at0 s pos) = some (0, at0 s pos) by unfold leadN; rw [if_pos c1])
          go_wp2_with fail
          go_meet
          case rel => exact ⟨0, at0 s pos, rfl, rfl, HL.out, rfl⟩
        have c1' : ¬ (at0 s pos : Int) < 128 := by omega
        by_cases c2 : at0 s pos < 194
        · have c2' : ¬ (194 : Int) ≤ (at0 s pos : Int) := by omega
          have c4' : ¬ (224 : Int) ≤ (at0 s pos : Int) := by omega
          have c6' : ¬ (240 : Int) ≤ (at0 s pos : Int) := by omega
          have HL := hid (show leadN (at0 s pos) = none by unfold leadN; rw [if_neg c1, if_neg (by omega), if_neg (by omega), if_neg (by omega)])
          go_wp2_with fail
          go_ret2
          exact ⟨.inl ⟨HB.out (step_none HL.out), rfl⟩, hB⟩
        have c2' : (194 : Int) ≤ (at0 s pos : Int) := by omega
        by_cases c3 : at0 s pos < 224
        · have c3' : (at0 s pos : Int) < 224 := by omega
          have HL := hid (show leadN (at0 s pos) = some (1, at0 s pos - 192) by unfold leadN; rw [if_neg c1, if_pos (by omega)])
          go_wp2_with fail
          go_meet
          case rel => exact ⟨1, at0 s pos - 192, rfl, by go_num, HL.out, rfl⟩
        have c3' : ¬ (at0 s pos : Int) < 224 := by omega
        have c4' : (224 : Int) ≤ (at0 s pos : Int) := by omega
        by_cases c5 : at0 s pos < 240
        · have c5' : (at0 s pos : Int) < 240 := by omega
          have HL := hid (show leadN (at0 s pos) = some (2, at0 s pos - 224) by unfold leadN; rw [if_neg c1, if_neg (by omega), if_pos (by omega)])
          go_wp2_with fail
          go_meet
          case rel => exact ⟨2, at0 s pos - 224, rfl, by go_num, HL.out, rfl⟩
        have c5' : ¬ (at0 s pos : Int) < 240 := by omega
        have c6' : (240 : Int) ≤ (at0 s pos : Int) := by omega
        by_cases c7 : at0 s pos < 245
        · have c7' : (at0 s pos : Int) < 245 := by omega
          have HL := hid (show leadN (at0 s pos) = some (3, at0 s pos - 240) by unfold leadN; rw [if_neg c1, if_neg (by omega), if_neg (by omega), if_pos (by omega)])
          go_wp2_with fail
          go_meet
          case rel => exact ⟨3, at0 s pos - 240, rfl, by go_num, HL.out, rfl⟩
        · have c7' : ¬ (at0 s pos : Int) < 245 := by omega
          have HL := hid (show leadN (at0 s pos) = none by unfold leadN; rw [if_neg c1, if_neg (by omega), if_neg (by omega), if_neg (by omega)])
          go_wp2_with fail
          go_ret2
          exact ⟨.inl ⟨HB.out (step_none HL.out), rfl⟩, hB⟩
      case rest =>
        obtain ⟨n, b, rfl, rfl, hlead, rfl⟩ := hcut
        have hn3 : n ≤ 3 := by rcases lead_cases hlead with q | q | q | q <;> omega
        have hb : b ≤ 127 := by rcases lead_cases hlead with q | q | q | q <;> omega
        have HLD := hid hlead
        have hn3' : (n : Int) ≤ 3 := by omega
        clear hlead
        by_cases hsh : s.size ≤ pos + n
        · have hsh' : (s.size : Int) ≤ (pos : Int) + n := by omega
          go_wp2_with fail
          go_ret2
          exact ⟨.inl ⟨HB.out (step_short HLD.out hp hsh), rfl⟩, hB⟩
        have hsh' : ¬ (s.size : Int) ≤ (pos : Int) + n := by omega
        go_wp2_with fail
        go_loopw [8, 9] (fun r k wq => ∃ (m R : Nat), k = .int .i64 (m : Int) ∧ (1 ≤ m ∧ m ≤ n + 1) ∧ r = .int .i64 (R : Int) ∧ R ≤ 100000000 ∧ Hid (R = accR s pos b (m - 1) ∧ ∀ i, 1 ≤ i → i < m → 128 ≤ at0 s (pos + i) ∧ at0 s (pos + i) ≤ 191) ∧ wq = wc) (fun _ k _ => n + 1 - (intOf k).toNat)
        case atStart => exact ⟨1, b, rfl, ⟨by omega, by omega⟩, rfl, by omega, ⟨rfl, fun i h1 h2 => by omega⟩, rfl⟩
        case round =>
          obtain ⟨m, R, rfl, ⟨hm1, hm2⟩, rfl, hR, HC, rfl⟩ := hrel
          have hR' : (R : Int) ≤ 100000000 := by omega
          have hm1' : (1 : Int) ≤ (m : Int) := by omega
          by_cases hmn : m ≤ n
          · have hmn' : (m : Int) ≤ n := by omega
            obtain ⟨q, hq⟩ : ∃ q, q = pos + m := ⟨_, rfl⟩
            have hqe : (pos : Int) + (m : Int) = (q : Int) := by omega
            have hql : (q : Int) < s.size := by omega
            have hqn : q < s.size := by omega
            have h1 := at0_eq s q hqn
            have hlt1 := at0_lt s q
            have HQ := hid (And.intro hq (show at0 s q = at0 s (pos + m) by rw [hq]))
            obtain ⟨d, hd⟩ : ∃ d, at0 s q = d := ⟨_, rfl⟩
            rw [hd] at h1 hlt1
            have HD := hid hd
            have hlt1' : (d : Int) < 256 := by omega
            have hacc : accR s pos b m = 64 * R + d - 128 := by
              obtain ⟨k, rfl⟩ : ∃ k, m = k + 1 := ⟨m - 1, by omega⟩
              show 64 * accR s pos b k + at0 s (pos + k + 1) - 128 = _
              have e1 := HC.out.1
              rw [Nat.add_sub_cancel] at e1
              rw [← e1, ← hd, hq]; rfl
            have hbig : 64 * R + d - 128 ≤ 100000000 := by
              have z := accR_le s pos b m
              rw [hacc] at z
              rcases (by omega : m = 1 ∨ m = 2 ∨ m = 3) with rfl | rfl | rfl <;> omega
            have HACC := hid (And.intro hacc hbig)
            have hqb : (q : Int) ≤ 100000 := by omega
            clear hacc hbig hd hq hlt1 hlt hne h0 hlt' hp ha hpl hb hsh
            by_cases d1 : (d : Int) < 128
            · go_wp2_with fail
              go_ret2
              exact ⟨.inl ⟨HB.out (step_cont (k := m) HLD.out hm1 hmn (.inl (by rw [← HQ.out.2, HD.out]; omega))), rfl⟩, hB⟩
            by_cases d2 : (191 : Int) < (d : Int)
            · go_wp2_with fail
              go_ret2
              exact ⟨.inl ⟨HB.out (step_cont (k := m) HLD.out hm1 hmn (.inr (by rw [← HQ.out.2, HD.out]; omega))), rfl⟩, hB⟩
            go_wp2_with fail
            go_roundw
            case rel =>
              refine ⟨m + 1, 64 * R + d - 128, by go_num, ⟨by omega, by omega⟩, by congr 1; omega, HACC.out.2, hid ⟨?_, fun i q1 q2 => ?_⟩, by first | rfl | trivial⟩
              · rw [Nat.add_sub_cancel]; exact HACC.out.1.symm
              · by_cases qq : i = m
                · subst qq
                  rw [← HQ.out.2, HD.out]
                  exact ⟨by omega, by omega⟩
                · exact HC.out.2 i q1 (by omega)
            case measure => simp [intOf]; omega
          · obtain ⟨j, rfl⟩ : ∃ j, m = j + 1 := ⟨m - 1, by omega⟩
            obtain rfl : j = n := by omega
            have hjn' : ¬ ((j + 1 : Nat) : Int) ≤ (j : Int) := by omega
            have HC2 := hid (show ∀ k, 1 ≤ k → k ≤ j → 128 ≤ at0 s (pos + k) ∧ at0 s (pos + k) ≤ 191 from fun k q1 q2 => HC.out.2 k q1 (by omega))
            have hRe : R = accR s pos b j := HC.out.1
            have hdec := step_dec HLD.out (by omega) HC2.out
            have hbnd : (j = 0 → accR s pos b j ≤ 127) ∧ (j = 1 → accR s pos b j ≤ 2047) ∧ (j = 2 → accR s pos b j ≤ 65535) := by
              have l0 := at0_lt s pos
              refine ⟨fun q => ?_, fun q => ?_, fun q => ?_⟩
              · subst q; exact hb
              · subst q
                obtain ⟨c1, c2⟩ := HC2.out 1 (by omega) (by omega)
                rcases lead_cases HLD.out with q | q | q | q
                all_goals first | omega | (show 64 * b + at0 s (pos + 1) - 128 ≤ 2047; omega)
              · subst q
                obtain ⟨c1, c2⟩ := HC2.out 1 (by omega) (by omega)
                obtain ⟨c3, c4⟩ := HC2.out 2 (by omega) (by omega)
                rcases lead_cases HLD.out with q | q | q | q
                all_goals first | omega | (show 64 * (64 * b + at0 s (pos + 1) - 128) + at0 s (pos + 2) - 128 ≤ 65535; omega)
            rw [← hRe] at hdec hbnd
            clear HC HC2 hRe
            have HDEC := hid hdec
            have HBND := hid hbnd
            clear hdec hbnd
            go_upto_region 27 with fail
            have hsh2 : pos + j < s.size := by omega
            clear hlt hlt' h0 hm1 hm2 hm1' hmn hsh hsh'
            go_cut [103] from 78 to 103 (fun t wx => t = .bool (decide (badR j R)) ∧ wx = wr)
            case first =>
              have HK := HBND.out
              clear HBND
              rcases (by omega : j = 0 ∨ j = 1 ∨ j = 2 ∨ j = 3) with rfl | rfl | rfl | rfl
              · have hk := HK.1 rfl
                have hq : R < 2048 := by omega
                have D := hid (decide_eq_false (show ¬ badR 0 R by unfold badR; omega))
                have t1 : (R : Int) < 2048 := by omega
                have t2 : (R : Int) < 65536 := by omega
                have t3 : ¬ (1114111 : Int) < R := by omega
                have t4 : ¬ (55295 : Int) < R := by omega
                have t5 : (R : Int) < 57344 := by omega
                clear hq HK hk
                go_wp2_with fail
                go_meet
                case rel => exact ⟨by rw [D.out], rfl⟩
              · have hk := HK.2.1 rfl
                have hq : R < 2048 := by omega
                have D := hid (decide_eq_false (show ¬ badR 1 R by unfold badR; omega))
                have t1 : (R : Int) < 2048 := by omega
                have t2 : (R : Int) < 65536 := by omega
                have t3 : ¬ (1114111 : Int) < R := by omega
                have t4 : ¬ (55295 : Int) < R := by omega
                have t5 : (R : Int) < 57344 := by omega
                clear hq HK hk
                go_wp2_with fail
                go_meet
                case rel => exact ⟨by rw [D.out], rfl⟩
              · have hk := HK.2.2 rfl
                rcases (by omega : R < 2048 ∨ 2048 ≤ R ∧ R < 55296 ∨ 55296 ≤ R ∧ R < 57344 ∨ 57344 ≤ R ∧ R < 65536) with hq | hq | hq | hq
                · have D := hid (decide_eq_true (show badR 2 R by unfold badR; omega))
                  have t1 : (R : Int) < 2048 := by omega
                  have t2 : (R : Int) < 65536 := by omega
                  have t3 : ¬ (1114111 : Int) < R := by omega
                  have t4 : ¬ (55295 : Int) < R := by omega
                  have t5 : (R : Int) < 57344 := by omega
                  clear hq HK hk
                  go_wp2_with fail
                  go_meet
                  case rel => exact ⟨by rw [D.out], rfl⟩
                · have D := hid (decide_eq_false (show ¬ badR 2 R by unfold badR; omega))
                  have t1 : ¬ (R : Int) < 2048 := by omega
                  have t2 : (R : Int) < 65536 := by omega
                  have t3 : ¬ (1114111 : Int) < R := by omega
                  have t4 : ¬ (55295 : Int) < R := by omega
                  have t5 : (R : Int) < 57344 := by omega
                  clear hq HK hk
                  go_wp2_with fail
                  go_meet
                  case rel => exact ⟨by rw [D.out], rfl⟩
                · have D := hid (decide_eq_true (show badR 2 R by unfold badR; omega))
                  have t1 : ¬ (R : Int) < 2048 := by omega
                  have t2 : (R : Int) < 65536 := by omega
                  have t3 : ¬ (1114111 : Int) < R := by omega
                  have t4 : (55295 : Int) < R := by omega
                  have t5 : (R : Int) < 57344 := by omega
                  clear hq HK hk
                  go_wp2_with fail
                  go_meet
                  case rel => exact ⟨by rw [D.out], rfl⟩
                · have D := hid (decide_eq_false (show ¬ badR 2 R by unfold badR; omega))
                  have t1 : ¬ (R : Int) < 2048 := by omega
                  have t2 : (R : Int) < 65536 := by omega
                  have t3 : ¬ (1114111 : Int) < R := by omega
                  have t4 : (55295 : Int) < R := by omega
                  have t5 : ¬ (R : Int) < 57344 := by omega
                  clear hq HK hk
                  go_wp2_with fail
                  go_meet
                  case rel => exact ⟨by rw [D.out], rfl⟩
              · skip
                rcases (by omega : R < 2048 ∨ 2048 ≤ R ∧ R < 55296 ∨ 55296 ≤ R ∧ R < 57344 ∨ 57344 ≤ R ∧ R < 65536 ∨ 65536 ≤ R ∧ R < 1114112 ∨ 1114112 ≤ R) with hq | hq | hq | hq | hq | hq
                · have D := hid (decide_eq_true (show badR 3 R by unfold badR; omega))
                  have t1 : (R : Int) < 2048 := by omega
                  have t2 : (R : Int) < 65536 := by omega
                  have t3 : ¬ (1114111 : Int) < R := by omega
                  have t4 : ¬ (55295 : Int) < R := by omega
                  have t5 : (R : Int) < 57344 := by omega
                  clear hq HK
                  go_wp2_with fail
                  go_meet
                  case rel => exact ⟨by rw [D.out], rfl⟩
                · have D := hid (decide_eq_true (show badR 3 R by unfold badR; omega))
                  have t1 : ¬ (R : Int) < 2048 := by omega
                  have t2 : (R : Int) < 65536 := by omega
                  have t3 : ¬ (1114111 : Int) < R := by omega
                  have t4 : ¬ (55295 : Int) < R := by omega
                  have t5 : (R : Int) < 57344 := by omega
                  clear hq HK
                  go_wp2_with fail
                  go_meet
                  case rel => exact ⟨by rw [D.out], rfl⟩
                · have D := hid (decide_eq_true (show badR 3 R by unfold badR; omega))
                  have t1 : ¬ (R : Int) < 2048 := by omega
                  have t2 : (R : Int) < 65536 := by omega
                  have t3 : ¬ (1114111 : Int) < R := by omega
                  have t4 : (55295 : Int) < R := by omega
                  have t5 : (R : Int) < 57344 := by omega
                  clear hq HK
                  go_wp2_with fail
                  go_meet
                  case rel => exact ⟨by rw [D.out], rfl⟩
                · have D := hid (decide_eq_true (show badR 3 R by unfold badR; omega))
                  have t1 : ¬ (R : Int) < 2048 := by omega
                  have t2 : (R : Int) < 65536 := by omega
                  have t3 : ¬ (1114111 : Int) < R := by omega
                  have t4 : (55295 : Int) < R := by omega
                  have t5 : ¬ (R : Int) < 57344 := by omega
                  clear hq HK
                  go_wp2_with fail
                  go_meet
                  case rel => exact ⟨by rw [D.out], rfl⟩
                · have D := hid (decide_eq_false (show ¬ badR 3 R by unfold badR; omega))
                  have t1 : ¬ (R : Int) < 2048 := by omega
                  have t2 : ¬ (R : Int) < 65536 := by omega
                  have t3 : ¬ (1114111 : Int) < R := by omega
                  have t4 : (55295 : Int) < R := by omega
                  have t5 : ¬ (R : Int) < 57344 := by omega
                  clear hq HK
                  go_wp2_with fail
                  go_meet
                  case rel => exact ⟨by rw [D.out], rfl⟩
                · have D := hid (decide_eq_true (show badR 3 R by unfold badR; omega))
                  have t1 : ¬ (R : Int) < 2048 := by omega
                  have t2 : ¬ (R : Int) < 65536 := by omega
                  have t3 : (1114111 : Int) < R := by omega
                  have t4 : (55295 : Int) < R := by omega
                  have t5 : ¬ (R : Int) < 57344 := by omega
                  clear hq HK
                  go_wp2_with fail
                  go_meet
                  case rel => exact ⟨by rw [D.out], rfl⟩
            case rest =>
              obtain ⟨rfl, rfl⟩ := hcut
              by_cases q : badR j R
              · have q' : decide (badR j R) = true := decide_eq_true q
                rw [q']
                go_wp2_with fail
                go_ret2
                have hd := HDEC.out
                rw [if_pos q] at hd
                exact ⟨.inl ⟨HB.out (by unfold Bad; rw [hd]; exact ⟨rfl, rfl⟩), rfl⟩, hB⟩
              · have q' : decide (badR j R) = false := decide_eq_false q
                rw [q']
                have hd := HDEC.out
                rw [if_neg q] at hd
                have hnb : ¬ Bad (s.data.toList.drop pos) := fun z => by
                  unfold Bad at z
                  rw [hd] at z
                  obtain ⟨z1, z2⟩ := z
                  simp only at z1 z2
                  rcases (by omega : j = 0) with rfl
                  have := HBND.out.1 rfl
                  omega
                have HN := hid (show rns s.data.toList = (rns (s.data.toList.drop (pos + (j + 1)))).map fun x => (a ++ [R]) ++ x by
                  rw [HR.out, rns_step _ hne, if_neg hnb, hd]
                  simp only [List.drop_drop]
                  cases rns (s.data.toList.drop (pos + (j + 1))) <;> simp)
                clear q hd hnb
                go_wp2_with (at_builtin; refine wpApp64 rfl (.tmp 104) (.tmp 106) rfl w.heap.size _ a rfl (hown.alloc _) _ [R] 1 1 rfl rfl one64 (by omega) (by simp; omega) ?_)
                intro v2 w2 ho2 hg2
                have hb2 := hB.trans (hown.below hg2.unalloc hBs)
                go_wp2
                go_roundw
                case rel => exact ⟨pos + (j + 1), a ++ [R], by go_num, by simp; omega, by omega, HN, ho2, hb2⟩
                case measure => simp [intOf]; omega
    · have hp' : ¬ (pos : Int) < s.size := by omega
      go_wp2_with fail
      go_ret2
      refine ⟨.inr ⟨a, ?_, u4, rfl, hown⟩, hB⟩
      rw [HR.out, List.drop_eq_nil_of_le (by simp; omega)]
      simp [rns_nil]
end Go.Proofs.YtobpidmlgldnmaaGreatDoor

/-
  Signs as a text: the answer's.
-/
namespace Go.Proofs.YtobpidmlgldnmaaGreatDoor
open Go.RowKit
set_option maxRecDepth 100000
attribute [local go_sem ↓] Go.wp_at_zero Go.wp_at_succ

/-- Numbers that lie in a row. -/
def Src64 (w : World) (al : Option Addr) (xs : List Nat) : Prop := ∀ j n : Nat, xs[j]? = some n → ∃ g cur, al = some ⟨g, 0, none⟩ ∧ At w g 3 cur ∧ cur[j]? = some (.int .i64 (n : Int))
theorem Src64.kept {B : Nat} {w w' : World} {al : Option Addr} {xs : List Nat} (h : Src64 w al xs) (hk : Kept8 B w w') : Src64 w' al xs := fun j n hj => by
  obtain ⟨g, cur, e, ha, hc⟩ := h j n hj
  exact ⟨g, cur, e, hk.at (by decide) ha, hc⟩
theorem Own64.src {w : World} {B : Nat} {v : Value} {xs : List Nat} (h : Own64 w B v xs) : ∃ al c, v = .slice al xs.length c ∧ Src64 w al xs := by
  obtain ⟨_, ⟨rfl, h2⟩ | ⟨g, cap, cur, rfl, h2, h3, _, _, _, h7⟩⟩ := h
  · have e : xs = [] := List.eq_nil_of_length_eq_zero h2
    subst e
    exact ⟨none, 0, rfl, fun j y hj => by simp at hj⟩
  · refine ⟨some ⟨g, 0, none⟩, cap, rfl, fun j n hj => ⟨g, cur, rfl, h3, ?_⟩⟩
    have hjl : j < xs.length := (List.getElem?_eq_some_iff.1 hj).1
    have e := congrArg (fun l : List Value => l[j]?) h7
    simp only [Nat.mul_one, List.getElem?_map, hj, Option.map_some] at e
    rw [List.getElem?_take, if_pos hjl] at e
    simpa [intV] using e
theorem txtR_snoc (a : List Nat) (r : Nat) : txtR (a ++ [r]) = txtR a ++ encR r := by rw [txtR_app]; simp [txtR]
set_option maxHeartbeats 2000000 in
theorem signs_says (xs : List Nat) (al : Option Addr) (c : Nat) (w : World) (hl : xs.length ≤ 100000) (hok : ∀ r ∈ xs, okR r) (hsrc : Src64 w al xs) :
    Calls Tryz.prog 75 #[.slice al xs.length c] w fun e w' => e = .returned (.string ⟨(txtR xs).toArray⟩) ∧ Below w.heap.size w w' := by
  have HS := hid hsrc
  have HOK := hid hok
  clear hsrc hok
  go_enter Tryz.func75, Tryz.ntmps75
  go_wp2_with fail
  go_loopw [3, 4] (fun t i wr => ∃ k : Nat, i = .int .i64 k ∧ k ≤ xs.length ∧ Own8 wr w.heap.size t (txtR (xs.take k)) ∧ Kept8 w.heap.size w wr) (fun _ i _ => xs.length - (intOf i).toNat)
  case atStart => exact ⟨0, rfl, Nat.zero_le _, Own8.nil _ _, Kept8.refl _ _⟩
  case round =>
    obtain ⟨k, rfl, hk, hown, hb⟩ := hrel
    have hbs := hb.size
    have htl : (txtR (xs.take k)).length ≤ 400000 := by
      have q := (rns_len (xs.take k)).2
      rw [List.length_take] at q; omega
    generalize hpre : txtR (xs.take k) = pre at *
    have HPR := hid hpre
    clear hpre
    by_cases hlt : k < xs.length
    · have hlt' : (k : Int) < xs.length := by omega
      obtain ⟨g, cur, rfl, hat, hcell⟩ := (HS.out.kept hb) k xs[k] (List.getElem?_eq_getElem hlt)
      have HT := hid (show xs.take (k + 1) = xs.take k ++ [xs[k]] from List.take_succ_eq_append_getElem hlt)
      have hor := HOK.out xs[k] (List.getElem_mem hlt)
      generalize xs[k] = r at *
      have gc := hat.cell k
      rw [hcell] at gc
      have hr1 : (r : Int) ≤ 1114111 := by unfold okR at hor; omega
      clear hor hat hcell
      by_cases c1 : (r : Int) < 128
      · have HE := hid (show encR r = [UInt8.ofNat r] by unfold encR; rw [if_pos (by omega)])
        go_wp2_with (at_builtin; refine wpApp8 rfl (.tmp 40) (.tmp 43) rfl w.heap.size _ pre rfl hown _ [UInt8.ofNat r] 1 1 rfl rfl ?cc (by omega) hbs ?_)
        case cc => simp [byteV]; omega
        intro v2 w2 ho2 hk2
        have hb2 := hb.trans hk2
        have HO := hid ho2
        clear hown hb hk2 ho2
        go_wp2
        go_roundw
        case rel =>
          refine ⟨k + 1, by go_num, by omega, ?_, hb2⟩
          rw [HT.out, txtR_snoc, HPR.out, HE.out]; simpa using HO.out
        case measure => simp [intOf]; omega
      by_cases c2 : (r : Int) < 2048
      · have HE := hid (show encR r = [UInt8.ofNat (192 + r / 64), UInt8.ofNat (128 + r % 64)] by unfold encR; rw [if_neg (by omega), if_pos (by omega)])
        go_wp2_with (at_builtin; refine wpApp8 rfl (.tmp 48) (.tmp 57) rfl w.heap.size _ pre rfl hown _ [UInt8.ofNat (192 + r / 64), UInt8.ofNat (128 + r % 64)] 2 2 rfl rfl ?cc (by omega) hbs ?_)
        case cc => simp [byteV]; omega
        intro v2 w2 ho2 hk2
        have hb2 := hb.trans hk2
        have HO := hid ho2
        clear hown hb hk2 ho2
        go_wp2
        go_roundw
        case rel =>
          refine ⟨k + 1, by go_num, by omega, ?_, hb2⟩
          rw [HT.out, txtR_snoc, HPR.out, HE.out]; simpa using HO.out
        case measure => simp [intOf]; omega
      by_cases c3 : (r : Int) < 65536
      · have HE := hid (show encR r = [UInt8.ofNat (224 + r / 4096), UInt8.ofNat (128 + r / 64 % 64), UInt8.ofNat (128 + r % 64)] by unfold encR; rw [if_neg (by omega), if_neg (by omega), if_pos (by omega)])
        go_wp2_with (at_builtin; refine wpApp8 rfl (.tmp 62) (.tmp 76) rfl w.heap.size _ pre rfl hown _ [UInt8.ofNat (224 + r / 4096), UInt8.ofNat (128 + r / 64 % 64), UInt8.ofNat (128 + r % 64)] 3 3 rfl rfl ?cc (by omega) hbs ?_)
        case cc => simp [byteV]; omega
        intro v2 w2 ho2 hk2
        have hb2 := hb.trans hk2
        have HO := hid ho2
        clear hown hb hk2 ho2
        go_wp2
        go_roundw
        case rel =>
          refine ⟨k + 1, by go_num, by omega, ?_, hb2⟩
          rw [HT.out, txtR_snoc, HPR.out, HE.out]; simpa using HO.out
        case measure => simp [intOf]; omega
      · have HE := hid (show encR r = [UInt8.ofNat (240 + r / 262144), UInt8.ofNat (128 + r / 4096 % 64), UInt8.ofNat (128 + r / 64 % 64), UInt8.ofNat (128 + r % 64)] by unfold encR; rw [if_neg (by omega), if_neg (by omega), if_neg (by omega)])
        go_wp2_with (at_builtin; refine wpApp8 rfl (.tmp 16) (.tmp 35) rfl w.heap.size _ pre rfl hown _ [UInt8.ofNat (240 + r / 262144), UInt8.ofNat (128 + r / 4096 % 64), UInt8.ofNat (128 + r / 64 % 64), UInt8.ofNat (128 + r % 64)] 4 4 rfl rfl ?cc (by omega) hbs ?_)
        case cc => simp [byteV]; omega
        intro v2 w2 ho2 hk2
        have hb2 := hb.trans hk2
        have HO := hid ho2
        clear hown hb hk2 ho2
        go_wp2
        go_roundw
        case rel =>
          refine ⟨k + 1, by go_num, by omega, ?_, hb2⟩
          rw [HT.out, txtR_snoc, HPR.out, HE.out]; simpa using HO.out
        case measure => simp [intOf]; omega
    · have hlt' : ¬ (k : Int) < xs.length := by omega
      have hcv := own8_conv hown
      go_wp2
      go_ret
      refine ⟨?_, hb.below⟩
      have e := HPR.out
      rw [List.take_of_length_le (by omega)] at e
      rw [e]
      rfl
set_option maxHeartbeats 2000000 in
theorem on_says (s : ByteArray) (k : Nat) (w : World) (hs : s.size ≤ 100000) (hk : (k : Int) ≤ 65535) :
    Calls Tryz.prog 54 #[.string s, .int .i64 k] w fun e w' => e = .returned (.tuple #[.string ⟨((goOn s.data.toList k).getD []).toArray⟩, .bool (goOn s.data.toList k).isSome]) ∧ Below w.heap.size w w' := by
  have hr := runes_says s w hs
  cases hrn : rns s.data.toList with
  | none =>
    rw [goOn_bad hrn]
    have HN := hid hrn
    clear hrn
    go_enter Tryz.func54, Tryz.ntmps54
    go_wp2_with (go_at_call 53; fail)
    go_at_call 53
    refine hr.mono ?_
    rintro e w1 ⟨⟨_, rfl⟩ | ⟨rs, v, h1, rfl, ho⟩, hb1⟩
    · go_wp2_with fail
      go_ret2
      exact ⟨rfl, hb1⟩
    · rw [HN.out] at h1; cases h1
  | some rs =>
    obtain ⟨hok, htx⟩ := rns_some _ _ rs (Nat.le_refl _) hrn
    have hrl : rs.length ≤ 100000 := by
      have q := (rns_len rs).1
      rw [← htx] at q
      have : s.data.toList.length = s.size := by simp
      omega
    rcases (show rs = [] ∨ ∃ a r, rs = a ++ [r] by rcases List.eq_nil_or_concat rs with h | ⟨a, r, h⟩
                                                   · exact .inl h
                                                   · exact .inr ⟨a, r, by rw [h, List.concat_eq_append]⟩) with rfl | ⟨a, r, rfl⟩
    · have hg : goOn s.data.toList k = none := by unfold goOn; rw [hrn]; rfl
      rw [hg]
      have HN := hid hrn
      clear hrn
      go_enter Tryz.func54, Tryz.ntmps54
      go_wp2_with (go_at_call 53; fail)
      go_at_call 53
      refine hr.mono ?_
      rintro e w1 ⟨⟨h1, rfl⟩ | ⟨rs, v, h1, rfl, ho⟩, hb1⟩
      · rw [HN.out] at h1; cases h1
      · rw [HN.out] at h1
        injection h1 with h1
        subst h1
        obtain ⟨al, c, rfl, _⟩ := ho.src
        go_wp2_with fail
        go_ret2
        exact ⟨rfl, hb1⟩
    · have hor : okR r := hok r (by simp)
      have hg := goOn_last hrn k
      have HN := hid hrn
      have HOK := hid hok
      have hr2 : (r : Int) ≤ 1114111 := by unfold okR at hor; omega
      have hal : a.length ≤ 99999 := by rw [List.length_append] at hrl; simp at hrl; omega
      clear hrn hok htx hrl
      have HG := hid hg
      clear hg
      have HOR := hid hor
      clear hor
      go_enter Tryz.func54, Tryz.ntmps54
      go_wp2_with (go_at_call 53; fail)
      go_at_call 53
      refine hr.mono ?_
      rintro e w1 ⟨⟨h1, rfl⟩ | ⟨rs, v, h1, rfl, ho⟩, hb1⟩
      · rw [HN.out] at h1; cases h1
      rw [HN.out] at h1
      injection h1 with h1
      subst h1
      have HOW := hid ho
      obtain ⟨al, c, rfl, hsrc⟩ := ho.src
      obtain ⟨g, cur, rfl, hat, hcell⟩ := hsrc a.length r (by simp)
      have gc := hat.cell a.length
      rw [hcell] at gc
      clear hr hcell hsrc ho
      have hlen : ((a ++ [r]).length : Int) = (a.length : Int) + 1 := by simp
      have hlen2 : (a ++ [r]).length = a.length + 1 := by simp
      have hrk : ((r + k : Nat) : Int) = (r : Int) + k := by simp
      by_cases G : okR (r + k) ∧ (r + k < 55296 ∨ 57344 ≤ r)
      · have HGo := HG.out
        rw [if_pos G] at HGo
        have HGO := hid HGo
        have HG1 := hid G.1
        have hor := HOR.out
        have hcells : ∀ (j n : Nat), (a ++ [r])[j]? = some n → w1.cell? ⟨g, j, none⟩ = some (.int .i64 (n : Int)) := fun j n hj => by
          obtain ⟨al', c', e1, hs1⟩ := HOW.out.src
          injection e1 with e1 e2 e3
          obtain ⟨g1, cur1, e4, h4, h5⟩ := hs1 j n hj
          rw [← e1] at e4
          injection e4 with e4
          injection e4 with e4
          subst e4
          rw [h4.cell j, h5]
        have HCE := hid hcells
        have hsz : w.heap.size ≤ w1.heap.size := hb1.size
        rcases G.2 with G2 | G2
        · have t1 : decide ((1114111 : Int) < (r : Int) + k) = false := decide_eq_false (by omega)
          have t2 : decide ((55295 : Int) < (r : Int) + k) = false := decide_eq_false (by omega)
          have t3 : decide ((57344 : Int) ≤ (r : Int) + k) = false := decide_eq_false (by omega)
          have t4 : decide ((r : Int) ≤ 55295) = true := decide_eq_true (by omega)
          clear G G2 HG hor HGo hcells
          go_wp2_with (at_builtin; refine wpApp64 rfl (.const (.slice none 0 0)) (.tmp 50) rfl w.heap.size _ [] rfl (Own64.nil _ _) g (a ++ [r]) (a.length + 1) c rfl (by simp) HCE.out (by simp; omega) hsz ?_)
          intro v2 w2 ho2 hg2
          have hb2 := hb1.trans ((Own64.nil w1 w.heap.size).below hg2 hsz)
          replace ho2 : Own64 w2 w.heap.size v2 (a ++ [r]) := by simpa using ho2
          obtain ⟨_, ⟨_, hz⟩ | ⟨g2, cap, cur2, rfl, hB2, hg2', _, _, hcs, htk⟩⟩ := ho2
          · simp at hz
          have hA2 : At w2 g2 3 cur2 := hg2'
          have hcs2 : a.length < cur2.size := by
            have q := congrArg List.length htk
            simp at q; omega
          have hcell : cur2[a.length]? = some (.int .i64 (r : Int)) := by
            have q := congrArg (fun l : List Value => l[a.length]?) htk
            simp only [Nat.mul_one, List.getElem?_map] at q
            rw [List.getElem?_take, if_pos (by simp)] at q
            simpa [intV] using q
          have c2 := hA2.cell a.length
          rw [hcell] at c2
          have f2 := hA2.free a.length
          have HST := hid (setCell_eq_setRow w2 g2 a.length cur2 3 (0, 0) (.int .i64 ((r : Int) + k)) hg2')
          have HA3 := hid (hA2.setRow (cur2.setIfInBounds a.length (.int .i64 ((r : Int) + k))))
          have HTK := hid htk
          have HB3 := hid (below_setRow hb2 hB2 (cur2.setIfInBounds a.length (.int .i64 ((r : Int) + k))))
          clear hg2 htk hg2' hcs hcell
          go_wp2_with (go_at_call 75; fail)
          go_at_call 75
          have hsg := signs_says (a ++ [r + k]) (some ⟨g2, 0, none⟩) cap (w2.setRow g2 (cur2.setIfInBounds a.length (.int .i64 ((r : Int) + k)))) (by simp; omega) (fun x hx => by
            rcases List.mem_append.1 hx with hx | hx
            · exact HOK.out x (by simp [hx])
            · simp at hx; subst hx; exact HG1.out) (fun j n hj => by
            refine ⟨g2, _, rfl, HA3.out, ?_⟩
            by_cases hja : j = a.length
            · subst hja
              simp at hj
              subst hj
              rw [Array.getElem?_setIfInBounds_self_of_lt hcs2]; simp
            · have hjl : j < a.length := by
                have := (List.getElem?_eq_some_iff.1 hj).1
                simp at this; omega
              rw [Array.getElem?_setIfInBounds_ne (Ne.symm hja)]
              rw [List.getElem?_append_left hjl] at hj
              have q := congrArg (fun l : List Value => l[j]?) HTK.out
              simp only [Nat.mul_one, List.getElem?_map] at q
              rw [List.getElem?_take, if_pos (by simp; omega), List.getElem?_append_left hjl, hj] at q
              simpa [intV] using q)
          rw [← HST.out] at hsg
          have hl3 : (a ++ [r + k]).length = a.length + 1 := by simp
          rw [hl3] at hsg
          refine hsg.mono ?_
          rintro e w4 ⟨rfl, hb4⟩
          go_wp2_with fail
          go_ret2
          refine ⟨?_, ?_⟩
          · rw [HGO.out, txtR_snoc]; rfl
          · rw [HST.out] at hb4
            exact HB3.out.trans (hb4.mono HB3.out.size)
        · have t1 : ¬ (1114111 : Int) < (r : Int) + k := by have := G.1; unfold okR at this; omega
          have t2 : (55295 : Int) < (r : Int) + k := by omega
          have t3 : ¬ (r : Int) + k < 57344 := by omega
          have t4 : ¬ (r : Int) ≤ 55295 := by omega
          clear G G2 HG hor HGo hcells
          go_wp2_with (at_builtin; refine wpApp64 rfl (.const (.slice none 0 0)) (.tmp 50) rfl w.heap.size _ [] rfl (Own64.nil _ _) g (a ++ [r]) (a.length + 1) c rfl (by simp) HCE.out (by simp; omega) hsz ?_)
          intro v2 w2 ho2 hg2
          have hb2 := hb1.trans ((Own64.nil w1 w.heap.size).below hg2 hsz)
          replace ho2 : Own64 w2 w.heap.size v2 (a ++ [r]) := by simpa using ho2
          obtain ⟨_, ⟨_, hz⟩ | ⟨g2, cap, cur2, rfl, hB2, hg2', _, _, hcs, htk⟩⟩ := ho2
          · simp at hz
          have hA2 : At w2 g2 3 cur2 := hg2'
          have hcs2 : a.length < cur2.size := by
            have q := congrArg List.length htk
            simp at q; omega
          have hcell : cur2[a.length]? = some (.int .i64 (r : Int)) := by
            have q := congrArg (fun l : List Value => l[a.length]?) htk
            simp only [Nat.mul_one, List.getElem?_map] at q
            rw [List.getElem?_take, if_pos (by simp)] at q
            simpa [intV] using q
          have c2 := hA2.cell a.length
          rw [hcell] at c2
          have f2 := hA2.free a.length
          have HST := hid (setCell_eq_setRow w2 g2 a.length cur2 3 (0, 0) (.int .i64 ((r : Int) + k)) hg2')
          have HA3 := hid (hA2.setRow (cur2.setIfInBounds a.length (.int .i64 ((r : Int) + k))))
          have HTK := hid htk
          have HB3 := hid (below_setRow hb2 hB2 (cur2.setIfInBounds a.length (.int .i64 ((r : Int) + k))))
          clear hg2 htk hg2' hcs hcell
          go_wp2_with (go_at_call 75; fail)
          go_at_call 75
          have hsg := signs_says (a ++ [r + k]) (some ⟨g2, 0, none⟩) cap (w2.setRow g2 (cur2.setIfInBounds a.length (.int .i64 ((r : Int) + k)))) (by simp; omega) (fun x hx => by
            rcases List.mem_append.1 hx with hx | hx
            · exact HOK.out x (by simp [hx])
            · simp at hx; subst hx; exact HG1.out) (fun j n hj => by
            refine ⟨g2, _, rfl, HA3.out, ?_⟩
            by_cases hja : j = a.length
            · subst hja
              simp at hj
              subst hj
              rw [Array.getElem?_setIfInBounds_self_of_lt hcs2]; simp
            · have hjl : j < a.length := by
                have := (List.getElem?_eq_some_iff.1 hj).1
                simp at this; omega
              rw [Array.getElem?_setIfInBounds_ne (Ne.symm hja)]
              rw [List.getElem?_append_left hjl] at hj
              have q := congrArg (fun l : List Value => l[j]?) HTK.out
              simp only [Nat.mul_one, List.getElem?_map] at q
              rw [List.getElem?_take, if_pos (by simp; omega), List.getElem?_append_left hjl, hj] at q
              simpa [intV] using q)
          rw [← HST.out] at hsg
          have hl3 : (a ++ [r + k]).length = a.length + 1 := by simp
          rw [hl3] at hsg
          refine hsg.mono ?_
          rintro e w4 ⟨rfl, hb4⟩
          go_wp2_with fail
          go_ret2
          refine ⟨?_, ?_⟩
          · rw [HGO.out, txtR_snoc]; rfl
          · rw [HST.out] at hb4
            exact HB3.out.trans (hb4.mono HB3.out.size)
      · have HGo := HG.out
        rw [if_neg G] at HGo
        have HGO := hid HGo
        have HNG := hid G
        clear G HG HGo
        go_wp2_with fail
        all_goals first
          | (go_ret2; exact ⟨by rw [HGO.out]; rfl, hb1⟩)
          | (exfalso; have q := HNG.out; have q2 := HOR.out; unfold okR at q q2; omega)

end Go.Proofs.YtobpidmlgldnmaaGreatDoor

/-
  What is wrong with spans, and a code's text: the answer's.
-/
namespace Go.Proofs.YtobpidmlgldnmaaGreatDoor
open Go.RowKit
set_option maxRecDepth 100000
attribute [local go_sem ↓] Go.wp_at_zero Go.wp_at_succ

theorem may_not_none {l : List UInt8} {k : Nat} (h : rns l = none) : ¬ mayT l k := fun q => by have := q.2; rw [goOn_bad h] at this; cases this
theorem may_not_nil {s : ByteArray} {k : Nat} (h : s.size = 0) : ¬ mayT s.data.toList k := fun q => by
  have e : s.data.toList = [] := List.eq_nil_of_length_eq_zero (by simpa using h)
  have := q.2
  rw [e] at this
  cases this
theorem may_not_long {s : ByteArray} {k : Nat} (h : 40 < s.size) : ¬ mayT s.data.toList k := fun q => by
  have := q.1
  have e : s.data.toList.length = s.size := by simp
  omega
set_option maxHeartbeats 4000000 in
theorem rFault_false (l : List Sp) (al : Option Addr) (cap : Nat) (w : World) (hl : l.length ≤ 300) (hA : SpAt w al l) (hx : ∀ x ∈ l, x.s.size ≤ 60) (F : Int) (hF : sFault 255 (-1) l = F) :
    Calls Tryz.prog 26 #[.slice al l.length cap, .bool false] w fun e w' => e = .returned (.int .i64 F) ∧ Below w.heap.size w w' := by
  have h3' : ¬ (300 : Int) < l.length := by omega
  have HA := hid hA
  have HX := hid hx
  have HF := hid hF
  clear hA hx hF
  go_enter Tryz.func26, Tryz.ntmps26
  go_wp2_with fail
  go_loopw [6] (fun i wr => ∃ (p : Nat) (y : Int), i = .int .i64 p ∧ p ≤ l.length ∧ Hid ((p = 0 ∧ y = -1) ∨ ∃ q z, p = q + 1 ∧ l[q]? = some z ∧ y = z.t) ∧ Hid (sFault 255 y (l.drop p) = F) ∧ Below w.heap.size w wr) (fun i _ => l.length - (intOf i).toNat)
  case atStart => exact ⟨0, -1, rfl, Nat.zero_le _, .inl ⟨rfl, rfl⟩, by rw [List.drop_zero]; exact HF, Below.refl _ _⟩
  case round =>
    obtain ⟨p, y, rfl, hp, HP, HY, hB⟩ := hrel
    by_cases hpl : p < l.length
    · have hpl' : (p : Int) < l.length := by omega
      have HLX := hid (List.getElem?_eq_getElem hpl)
      have h60 := HX.out l[p] (List.getElem_mem hpl)
      obtain ⟨b, off, rfl, hbl, g0, g1, g2, ⟨f0, f1⟩, ⟨t0, t1⟩, hs⟩ := (HA.out.later hB) p l[p] (List.getElem?_eq_getElem hpl)
      have hd : l.drop p = l[p] :: l.drop (p + 1) := List.drop_eq_getElem_cons hpl
      have HY2 := HY.out
      rw [hd] at HY2
      clear hd HY hs
      generalize l[p] = x at *
      by_cases c1 : x.f < 0
      · rw [sFault_1 (.inl c1)] at HY2
        subst HY2
        go_wp2_with fail
        go_ret
        exact ⟨rfl, chn' hB (by go_grown)⟩
      by_cases c2 : 255 < x.t
      · rw [sFault_1 (.inr c2)] at HY2
        subst HY2
        go_wp2_with fail
        go_ret
        exact ⟨rfl, chn' hB (by go_grown)⟩
      have hn : ¬ (x.f < 0 ∨ 255 < x.t) := fun q => q.elim c1 c2
      have HY3 := hid HY2
      have HN := hid hn
      clear hn HY2
      go_wp2_with (go_at_call 53; fail)
      go_at_call 53
      refine (runes_says x.s _ (by omega)).mono ?_
      rintro e w2 ⟨hcase, hb2⟩
      obtain ⟨vr, ok, he, HOK⟩ : ∃ (vr : Value) (ok : Bool), e = .returned (.tuple #[vr, .bool ok]) ∧ Hid (ok = decide (rns x.s.data.toList ≠ none)) := by
        rcases hcase with ⟨q1, q2⟩ | ⟨rs, v, q1, q2, _⟩
        · exact ⟨_, _, q2, by rw [q1]; rfl⟩
        · exact ⟨_, _, q2, by rw [q1]; rfl⟩
      subst he
      have hB2 : Below w.heap.size w w2 := chn' hB (chn' (by go_grown) hb2)
      have hX := At.later (At.new wr #[.int .i64 x.f, .int .i64 x.t, .string x.s] 98 rfl) hb2
      have hbl2 : b < w2.heap.size := Nat.lt_of_lt_of_le hbl (Nat.le_trans (by simp) hb2.size)
      have x0 := hX.cell 0
      have x1 := hX.cell 1
      have x2 := hX.cell 2
      have xl := hX.lt
      simp at x0 x1 x2
      clear hcase hb2 g0 g1 g2
      go_upto_region 13 with fail
      go_cut [75] from 41 to 75 (fun t wx => t = .bool (decide (x.t < x.f ∨ x.f ≤ y ∨ rns x.s.data.toList = none ∨ x.s.size = 0 ∨ 40 < x.s.size)) ∧ At wx wr.heap.size 98 #[.int .i64 x.f, .int .i64 x.t, .string x.s] ∧ Below w.heap.size w wx)
      case first =>
        have hT := toListNil x.s
        by_cases c3 : x.t < x.f
        · have D := hid (decide_eq_true (show (x.t < x.f ∨ x.f ≤ y ∨ rns x.s.data.toList = none ∨ x.s.size = 0 ∨ 40 < x.s.size) from .inl c3))
          go_region
          all_goals
            go_wp2_with fail
            go_meet
            case rel => exact ⟨congrArg Value.bool D.out.symm, hX, by first | exact hB2 | exact hB2.drew⟩
        rcases HP.out with ⟨rfl, rfl⟩ | ⟨q, z, rfl, hq, rfl⟩
        · have c4 : ¬ x.f ≤ -1 := by omega
          cases ok with
          | false =>
            have hrn : rns x.s.data.toList = none := Classical.byContradiction fun q => by have := HOK.out; rw [decide_eq_true q] at this; cases this
            have D := hid (decide_eq_true (show (x.t < x.f ∨ x.f ≤ -1 ∨ rns x.s.data.toList = none ∨ x.s.size = 0 ∨ 40 < x.s.size) from .inr (.inr (.inl hrn))))
            clear hrn
            go_region
            all_goals
              go_wp2_with fail
              go_meet
              case rel => exact ⟨congrArg Value.bool D.out.symm, hX, by first | exact hB2 | exact hB2.drew⟩
          | true =>
            have hrn : rns x.s.data.toList ≠ none := fun q => by have := HOK.out; rw [q] at this; cases this
            by_cases c6 : x.s.size = 0
            · have hie : x.s.toList.isEmpty = true := by rw [hT.2 c6]; rfl
              have D := hid (decide_eq_true (show (x.t < x.f ∨ x.f ≤ -1 ∨ rns x.s.data.toList = none ∨ x.s.size = 0 ∨ 40 < x.s.size) from .inr (.inr (.inr (.inl c6)))))
              clear hrn hT
              go_region
              all_goals
                go_wp2_with fail
                go_meet
                case rel => exact ⟨congrArg Value.bool D.out.symm, hX, by first | exact hB2 | exact hB2.drew⟩
            have hie : x.s.toList.isEmpty = false := by cases hh : x.s.toList with
              | nil => exact absurd (hT.1 hh) c6
              | cons a l => rfl
            by_cases c7 : 40 < x.s.size
            · have c7' : (40 : Int) < x.s.size := by omega
              have D := hid (decide_eq_true (show (x.t < x.f ∨ x.f ≤ -1 ∨ rns x.s.data.toList = none ∨ x.s.size = 0 ∨ 40 < x.s.size) from .inr (.inr (.inr (.inr c7)))))
              clear hrn hT c6
              go_region
              all_goals
                go_wp2_with fail
                go_meet
                case rel => exact ⟨congrArg Value.bool D.out.symm, hX, by first | exact hB2 | exact hB2.drew⟩
            have c7' : ¬ (40 : Int) < x.s.size := by omega
            have hno : ¬ (x.t < x.f ∨ x.f ≤ -1 ∨ rns x.s.data.toList = none ∨ x.s.size = 0 ∨ 40 < x.s.size) := fun q => by
              rcases q with q | q | q | q | q
              · exact c3 q
              · exact c4 q
              · exact hrn q
              · exact c6 q
              · exact c7 q
            have D := hid (decide_eq_false (show ¬ (x.t < x.f ∨ x.f ≤ -1 ∨ rns x.s.data.toList = none ∨ x.s.size = 0 ∨ 40 < x.s.size) from hno))
            clear hrn hT c6 hno
            go_region
            all_goals
              go_wp2_with fail
              go_meet
              case rel => exact ⟨congrArg Value.bool D.out.symm, hX, by first | exact hB2 | exact hB2.drew⟩
        · obtain ⟨b', off', e, _, _, y1, _, _, _, _⟩ := (HA.out.later hB2) q z hq
          injection e with e
          injection e with e1 e2
          subst e1
          subst e2
          have hq1 : (0 : Int) < ((q + 1 : Nat) : Int) := by omega
          by_cases c4 : x.f ≤ z.t
          · have D := hid (decide_eq_true (show (x.t < x.f ∨ x.f ≤ z.t ∨ rns x.s.data.toList = none ∨ x.s.size = 0 ∨ 40 < x.s.size) from .inr (.inl c4)))
            go_region
            all_goals
              go_wp2_with fail
              go_meet
              case rel => exact ⟨congrArg Value.bool D.out.symm, hX, by first | exact hB2 | exact hB2.drew⟩
          cases ok with
          | false =>
            have hrn : rns x.s.data.toList = none := Classical.byContradiction fun q => by have := HOK.out; rw [decide_eq_true q] at this; cases this
            have D := hid (decide_eq_true (show (x.t < x.f ∨ x.f ≤ z.t ∨ rns x.s.data.toList = none ∨ x.s.size = 0 ∨ 40 < x.s.size) from .inr (.inr (.inl hrn))))
            clear hrn
            go_region
            all_goals
              go_wp2_with fail
              go_meet
              case rel => exact ⟨congrArg Value.bool D.out.symm, hX, by first | exact hB2 | exact hB2.drew⟩
          | true =>
            have hrn : rns x.s.data.toList ≠ none := fun q => by have := HOK.out; rw [q] at this; cases this
            by_cases c6 : x.s.size = 0
            · have hie : x.s.toList.isEmpty = true := by rw [hT.2 c6]; rfl
              have D := hid (decide_eq_true (show (x.t < x.f ∨ x.f ≤ z.t ∨ rns x.s.data.toList = none ∨ x.s.size = 0 ∨ 40 < x.s.size) from .inr (.inr (.inr (.inl c6)))))
              clear hrn hT
              go_region
              all_goals
                go_wp2_with fail
                go_meet
                case rel => exact ⟨congrArg Value.bool D.out.symm, hX, by first | exact hB2 | exact hB2.drew⟩
            have hie : x.s.toList.isEmpty = false := by cases hh : x.s.toList with
              | nil => exact absurd (hT.1 hh) c6
              | cons a l => rfl
            by_cases c7 : 40 < x.s.size
            · have c7' : (40 : Int) < x.s.size := by omega
              have D := hid (decide_eq_true (show (x.t < x.f ∨ x.f ≤ z.t ∨ rns x.s.data.toList = none ∨ x.s.size = 0 ∨ 40 < x.s.size) from .inr (.inr (.inr (.inr c7)))))
              clear hrn hT c6
              go_region
              all_goals
                go_wp2_with fail
                go_meet
                case rel => exact ⟨congrArg Value.bool D.out.symm, hX, by first | exact hB2 | exact hB2.drew⟩
            have c7' : ¬ (40 : Int) < x.s.size := by omega
            have hno : ¬ (x.t < x.f ∨ x.f ≤ z.t ∨ rns x.s.data.toList = none ∨ x.s.size = 0 ∨ 40 < x.s.size) := fun q => by
              rcases q with q | q | q | q | q
              · exact c3 q
              · exact c4 q
              · exact hrn q
              · exact c6 q
              · exact c7 q
            have D := hid (decide_eq_false (show ¬ (x.t < x.f ∨ x.f ≤ z.t ∨ rns x.s.data.toList = none ∨ x.s.size = 0 ∨ 40 < x.s.size) from hno))
            clear hrn hT c6 hno
            go_region
            all_goals
              go_wp2_with fail
              go_meet
              case rel => exact ⟨congrArg Value.bool D.out.symm, hX, by first | exact hB2 | exact hB2.drew⟩
      case rest =>
        obtain ⟨rfl, hX2, hB3⟩ := hcut
        clear x0 x1 x2 xl hX hB2 hbl2
        have x0 := hX2.cell 0
        have x1 := hX2.cell 1
        have x2 := hX2.cell 2
        have xl := hX2.lt
        simp at x0 x1 x2
        by_cases hC : x.t < x.f ∨ x.f ≤ y ∨ rns x.s.data.toList = none ∨ x.s.size = 0 ∨ 40 < x.s.size
        · have hD : decide (x.t < x.f ∨ x.f ≤ y ∨ rns x.s.data.toList = none ∨ x.s.size = 0 ∨ 40 < x.s.size) = true := decide_eq_true hC
          rw [hD]
          have h3 : F = 3 := by
            rw [← HY3.out]
            refine sFault_3 HN.out ?_
            rcases hC with q | q | q | q | q
            · exact .inl q
            · exact .inr (.inl q)
            · exact .inr (.inr (may_not_none q))
            · exact .inr (.inr (may_not_nil q))
            · exact .inr (.inr (may_not_long q))
          subst h3
          clear hC hD
          go_wp2_with fail
          go_ret
          exact ⟨rfl, hB3⟩
        · have hD : decide (x.t < x.f ∨ x.f ≤ y ∨ rns x.s.data.toList = none ∨ x.s.size = 0 ∨ 40 < x.s.size) = false := decide_eq_false hC
          rw [hD]
          obtain ⟨k, hk⟩ : ∃ k : Nat, x.t - x.f = (k : Int) := ⟨(x.t - x.f).toNat, by omega⟩
          have hkn : (x.t - x.f).toNat = k := by omega
          have hon := fun W => on_says x.s k W (by omega) (by omega)
          rw [← hk] at hon
          have hft : x.f ≤ x.t := by omega
          by_cases hm : mayT x.s.data.toList k
          · have hy : sFault 255 x.t (l.drop (p + 1)) = F := by
              rw [← HY3.out]
              exact (sFault_on HN.out (fun q => by
                rcases q with q | q | q
                · exact hC (.inl q)
                · exact hC (.inr (.inl q))
                · exact q (by rw [hkn]; exact hm))).symm
            have HY4 := hid hy
            rw [hm.2] at hon
            clear hC hD hm hy hk hkn
            go_wp2_with (go_at_call 54; go_must (refine (hon _).mono ?_); rintro e w5 ⟨rfl, hb5⟩)
            go_roundw
            case rel => exact ⟨p + 1, x.t, by go_num, by omega, .inr ⟨p, x, rfl, HLX.out, rfl⟩, HY4, chn' hB3 hb5⟩
            case measure => simp [intOf]; omega
          · have h3 : F = 3 := by
              rw [← HY3.out]
              exact sFault_3 HN.out (.inr (.inr (by rw [hkn]; exact hm)))
            subst h3
            have hgo : (goOn x.s.data.toList k).isSome = false := by
              have : ¬ (goOn x.s.data.toList k).isSome = true := fun q => hm ⟨by
                have e : x.s.data.toList.length = x.s.size := by simp
                omega, q⟩
              simpa using this
            rw [hgo] at hon
            clear hC hD hm hk hkn hgo
            go_wp2_with (go_at_call 54; go_must (refine (hon _).mono ?_); rintro e w5 ⟨rfl, hb5⟩)
            go_ret
            exact ⟨rfl, chn' hB3 hb5⟩
    · have hpl' : ¬ (p : Int) < l.length := by omega
      have h0 := HY.out
      rw [List.drop_eq_nil_of_le (by omega)] at h0
      subst h0
      go_wp2_with fail
      go_ret
      exact ⟨rfl, hB⟩
set_option maxHeartbeats 4000000 in
theorem rFault_true (l : List Sp) (al : Option Addr) (cap : Nat) (w : World) (hl : l.length ≤ 300) (hA : SpAt w al l) (hx : ∀ x ∈ l, x.s.size ≤ 60) (F : Int) (hF : sFault 65535 (-1) l = F) :
    Calls Tryz.prog 26 #[.slice al l.length cap, .bool true] w fun e w' => e = .returned (.int .i64 F) ∧ Below w.heap.size w w' := by
  have h3' : ¬ (300 : Int) < l.length := by omega
  have HA := hid hA
  have HX := hid hx
  have HF := hid hF
  clear hA hx hF
  go_enter Tryz.func26, Tryz.ntmps26
  go_wp2_with fail
  go_loopw [6] (fun i wr => ∃ (p : Nat) (y : Int), i = .int .i64 p ∧ p ≤ l.length ∧ Hid ((p = 0 ∧ y = -1) ∨ ∃ q z, p = q + 1 ∧ l[q]? = some z ∧ y = z.t) ∧ Hid (sFault 65535 y (l.drop p) = F) ∧ Below w.heap.size w wr) (fun i _ => l.length - (intOf i).toNat)
  case atStart => exact ⟨0, -1, rfl, Nat.zero_le _, .inl ⟨rfl, rfl⟩, by rw [List.drop_zero]; exact HF, Below.refl _ _⟩
  case round =>
    obtain ⟨p, y, rfl, hp, HP, HY, hB⟩ := hrel
    by_cases hpl : p < l.length
    · have hpl' : (p : Int) < l.length := by omega
      have HLX := hid (List.getElem?_eq_getElem hpl)
      have h60 := HX.out l[p] (List.getElem_mem hpl)
      obtain ⟨b, off, rfl, hbl, g0, g1, g2, ⟨f0, f1⟩, ⟨t0, t1⟩, hs⟩ := (HA.out.later hB) p l[p] (List.getElem?_eq_getElem hpl)
      have hd : l.drop p = l[p] :: l.drop (p + 1) := List.drop_eq_getElem_cons hpl
      have HY2 := HY.out
      rw [hd] at HY2
      clear hd HY hs
      generalize l[p] = x at *
      by_cases c1 : x.f < 0
      · rw [sFault_1 (.inl c1)] at HY2
        subst HY2
        go_wp2_with fail
        go_ret
        exact ⟨rfl, chn' hB (by go_grown)⟩
      by_cases c2 : 65535 < x.t
      · rw [sFault_1 (.inr c2)] at HY2
        subst HY2
        go_wp2_with fail
        go_ret
        exact ⟨rfl, chn' hB (by go_grown)⟩
      have hn : ¬ (x.f < 0 ∨ 65535 < x.t) := fun q => q.elim c1 c2
      have HY3 := hid HY2
      have HN := hid hn
      clear hn HY2
      go_wp2_with (go_at_call 53; fail)
      go_at_call 53
      refine (runes_says x.s _ (by omega)).mono ?_
      rintro e w2 ⟨hcase, hb2⟩
      obtain ⟨vr, ok, he, HOK⟩ : ∃ (vr : Value) (ok : Bool), e = .returned (.tuple #[vr, .bool ok]) ∧ Hid (ok = decide (rns x.s.data.toList ≠ none)) := by
        rcases hcase with ⟨q1, q2⟩ | ⟨rs, v, q1, q2, _⟩
        · exact ⟨_, _, q2, by rw [q1]; rfl⟩
        · exact ⟨_, _, q2, by rw [q1]; rfl⟩
      subst he
      have hB2 : Below w.heap.size w w2 := chn' hB (chn' (by go_grown) hb2)
      have hX := At.later (At.new wr #[.int .i64 x.f, .int .i64 x.t, .string x.s] 98 rfl) hb2
      have hbl2 : b < w2.heap.size := Nat.lt_of_lt_of_le hbl (Nat.le_trans (by simp) hb2.size)
      have x0 := hX.cell 0
      have x1 := hX.cell 1
      have x2 := hX.cell 2
      have xl := hX.lt
      simp at x0 x1 x2
      clear hcase hb2 g0 g1 g2
      go_upto_region 13 with fail
      go_cut [75] from 41 to 75 (fun t wx => t = .bool (decide (x.t < x.f ∨ x.f ≤ y ∨ rns x.s.data.toList = none ∨ x.s.size = 0 ∨ 40 < x.s.size)) ∧ At wx wr.heap.size 98 #[.int .i64 x.f, .int .i64 x.t, .string x.s] ∧ Below w.heap.size w wx)
      case first =>
        have hT := toListNil x.s
        by_cases c3 : x.t < x.f
        · have D := hid (decide_eq_true (show (x.t < x.f ∨ x.f ≤ y ∨ rns x.s.data.toList = none ∨ x.s.size = 0 ∨ 40 < x.s.size) from .inl c3))
          go_region
          all_goals
            go_wp2_with fail
            go_meet
            case rel => exact ⟨congrArg Value.bool D.out.symm, hX, by first | exact hB2 | exact hB2.drew⟩
        rcases HP.out with ⟨rfl, rfl⟩ | ⟨q, z, rfl, hq, rfl⟩
        · have c4 : ¬ x.f ≤ -1 := by omega
          cases ok with
          | false =>
            have hrn : rns x.s.data.toList = none := Classical.byContradiction fun q => by have := HOK.out; rw [decide_eq_true q] at this; cases this
            have D := hid (decide_eq_true (show (x.t < x.f ∨ x.f ≤ -1 ∨ rns x.s.data.toList = none ∨ x.s.size = 0 ∨ 40 < x.s.size) from .inr (.inr (.inl hrn))))
            clear hrn
            go_region
            all_goals
              go_wp2_with fail
              go_meet
              case rel => exact ⟨congrArg Value.bool D.out.symm, hX, by first | exact hB2 | exact hB2.drew⟩
          | true =>
            have hrn : rns x.s.data.toList ≠ none := fun q => by have := HOK.out; rw [q] at this; cases this
            by_cases c6 : x.s.size = 0
            · have hie : x.s.toList.isEmpty = true := by rw [hT.2 c6]; rfl
              have D := hid (decide_eq_true (show (x.t < x.f ∨ x.f ≤ -1 ∨ rns x.s.data.toList = none ∨ x.s.size = 0 ∨ 40 < x.s.size) from .inr (.inr (.inr (.inl c6)))))
              clear hrn hT
              go_region
              all_goals
                go_wp2_with fail
                go_meet
                case rel => exact ⟨congrArg Value.bool D.out.symm, hX, by first | exact hB2 | exact hB2.drew⟩
            have hie : x.s.toList.isEmpty = false := by cases hh : x.s.toList with
              | nil => exact absurd (hT.1 hh) c6
              | cons a l => rfl
            by_cases c7 : 40 < x.s.size
            · have c7' : (40 : Int) < x.s.size := by omega
              have D := hid (decide_eq_true (show (x.t < x.f ∨ x.f ≤ -1 ∨ rns x.s.data.toList = none ∨ x.s.size = 0 ∨ 40 < x.s.size) from .inr (.inr (.inr (.inr c7)))))
              clear hrn hT c6
              go_region
              all_goals
                go_wp2_with fail
                go_meet
                case rel => exact ⟨congrArg Value.bool D.out.symm, hX, by first | exact hB2 | exact hB2.drew⟩
            have c7' : ¬ (40 : Int) < x.s.size := by omega
            have hno : ¬ (x.t < x.f ∨ x.f ≤ -1 ∨ rns x.s.data.toList = none ∨ x.s.size = 0 ∨ 40 < x.s.size) := fun q => by
              rcases q with q | q | q | q | q
              · exact c3 q
              · exact c4 q
              · exact hrn q
              · exact c6 q
              · exact c7 q
            have D := hid (decide_eq_false (show ¬ (x.t < x.f ∨ x.f ≤ -1 ∨ rns x.s.data.toList = none ∨ x.s.size = 0 ∨ 40 < x.s.size) from hno))
            clear hrn hT c6 hno
            go_region
            all_goals
              go_wp2_with fail
              go_meet
              case rel => exact ⟨congrArg Value.bool D.out.symm, hX, by first | exact hB2 | exact hB2.drew⟩
        · obtain ⟨b', off', e, _, _, y1, _, _, _, _⟩ := (HA.out.later hB2) q z hq
          injection e with e
          injection e with e1 e2
          subst e1
          subst e2
          have hq1 : (0 : Int) < ((q + 1 : Nat) : Int) := by omega
          by_cases c4 : x.f ≤ z.t
          · have D := hid (decide_eq_true (show (x.t < x.f ∨ x.f ≤ z.t ∨ rns x.s.data.toList = none ∨ x.s.size = 0 ∨ 40 < x.s.size) from .inr (.inl c4)))
            go_region
            all_goals
              go_wp2_with fail
              go_meet
              case rel => exact ⟨congrArg Value.bool D.out.symm, hX, by first | exact hB2 | exact hB2.drew⟩
          cases ok with
          | false =>
            have hrn : rns x.s.data.toList = none := Classical.byContradiction fun q => by have := HOK.out; rw [decide_eq_true q] at this; cases this
            have D := hid (decide_eq_true (show (x.t < x.f ∨ x.f ≤ z.t ∨ rns x.s.data.toList = none ∨ x.s.size = 0 ∨ 40 < x.s.size) from .inr (.inr (.inl hrn))))
            clear hrn
            go_region
            all_goals
              go_wp2_with fail
              go_meet
              case rel => exact ⟨congrArg Value.bool D.out.symm, hX, by first | exact hB2 | exact hB2.drew⟩
          | true =>
            have hrn : rns x.s.data.toList ≠ none := fun q => by have := HOK.out; rw [q] at this; cases this
            by_cases c6 : x.s.size = 0
            · have hie : x.s.toList.isEmpty = true := by rw [hT.2 c6]; rfl
              have D := hid (decide_eq_true (show (x.t < x.f ∨ x.f ≤ z.t ∨ rns x.s.data.toList = none ∨ x.s.size = 0 ∨ 40 < x.s.size) from .inr (.inr (.inr (.inl c6)))))
              clear hrn hT
              go_region
              all_goals
                go_wp2_with fail
                go_meet
                case rel => exact ⟨congrArg Value.bool D.out.symm, hX, by first | exact hB2 | exact hB2.drew⟩
            have hie : x.s.toList.isEmpty = false := by cases hh : x.s.toList with
              | nil => exact absurd (hT.1 hh) c6
              | cons a l => rfl
            by_cases c7 : 40 < x.s.size
            · have c7' : (40 : Int) < x.s.size := by omega
              have D := hid (decide_eq_true (show (x.t < x.f ∨ x.f ≤ z.t ∨ rns x.s.data.toList = none ∨ x.s.size = 0 ∨ 40 < x.s.size) from .inr (.inr (.inr (.inr c7)))))
              clear hrn hT c6
              go_region
              all_goals
                go_wp2_with fail
                go_meet
                case rel => exact ⟨congrArg Value.bool D.out.symm, hX, by first | exact hB2 | exact hB2.drew⟩
            have c7' : ¬ (40 : Int) < x.s.size := by omega
            have hno : ¬ (x.t < x.f ∨ x.f ≤ z.t ∨ rns x.s.data.toList = none ∨ x.s.size = 0 ∨ 40 < x.s.size) := fun q => by
              rcases q with q | q | q | q | q
              · exact c3 q
              · exact c4 q
              · exact hrn q
              · exact c6 q
              · exact c7 q
            have D := hid (decide_eq_false (show ¬ (x.t < x.f ∨ x.f ≤ z.t ∨ rns x.s.data.toList = none ∨ x.s.size = 0 ∨ 40 < x.s.size) from hno))
            clear hrn hT c6 hno
            go_region
            all_goals
              go_wp2_with fail
              go_meet
              case rel => exact ⟨congrArg Value.bool D.out.symm, hX, by first | exact hB2 | exact hB2.drew⟩
      case rest =>
        obtain ⟨rfl, hX2, hB3⟩ := hcut
        clear x0 x1 x2 xl hX hB2 hbl2
        have x0 := hX2.cell 0
        have x1 := hX2.cell 1
        have x2 := hX2.cell 2
        have xl := hX2.lt
        simp at x0 x1 x2
        by_cases hC : x.t < x.f ∨ x.f ≤ y ∨ rns x.s.data.toList = none ∨ x.s.size = 0 ∨ 40 < x.s.size
        · have hD : decide (x.t < x.f ∨ x.f ≤ y ∨ rns x.s.data.toList = none ∨ x.s.size = 0 ∨ 40 < x.s.size) = true := decide_eq_true hC
          rw [hD]
          have h3 : F = 3 := by
            rw [← HY3.out]
            refine sFault_3 HN.out ?_
            rcases hC with q | q | q | q | q
            · exact .inl q
            · exact .inr (.inl q)
            · exact .inr (.inr (may_not_none q))
            · exact .inr (.inr (may_not_nil q))
            · exact .inr (.inr (may_not_long q))
          subst h3
          clear hC hD
          go_wp2_with fail
          go_ret
          exact ⟨rfl, hB3⟩
        · have hD : decide (x.t < x.f ∨ x.f ≤ y ∨ rns x.s.data.toList = none ∨ x.s.size = 0 ∨ 40 < x.s.size) = false := decide_eq_false hC
          rw [hD]
          obtain ⟨k, hk⟩ : ∃ k : Nat, x.t - x.f = (k : Int) := ⟨(x.t - x.f).toNat, by omega⟩
          have hkn : (x.t - x.f).toNat = k := by omega
          have hon := fun W => on_says x.s k W (by omega) (by omega)
          rw [← hk] at hon
          have hft : x.f ≤ x.t := by omega
          by_cases hm : mayT x.s.data.toList k
          · have hy : sFault 65535 x.t (l.drop (p + 1)) = F := by
              rw [← HY3.out]
              exact (sFault_on HN.out (fun q => by
                rcases q with q | q | q
                · exact hC (.inl q)
                · exact hC (.inr (.inl q))
                · exact q (by rw [hkn]; exact hm))).symm
            have HY4 := hid hy
            rw [hm.2] at hon
            clear hC hD hm hy hk hkn
            go_wp2_with (go_at_call 54; go_must (refine (hon _).mono ?_); rintro e w5 ⟨rfl, hb5⟩)
            go_roundw
            case rel => exact ⟨p + 1, x.t, by go_num, by omega, .inr ⟨p, x, rfl, HLX.out, rfl⟩, HY4, chn' hB3 hb5⟩
            case measure => simp [intOf]; omega
          · have h3 : F = 3 := by
              rw [← HY3.out]
              exact sFault_3 HN.out (.inr (.inr (by rw [hkn]; exact hm)))
            subst h3
            have hgo : (goOn x.s.data.toList k).isSome = false := by
              have : ¬ (goOn x.s.data.toList k).isSome = true := fun q => hm ⟨by
                have e : x.s.data.toList.length = x.s.size := by simp
                omega, q⟩
              simpa using this
            rw [hgo] at hon
            clear hC hD hm hk hkn hgo
            go_wp2_with (go_at_call 54; go_must (refine (hon _).mono ?_); rintro e w5 ⟨rfl, hb5⟩)
            go_ret
            exact ⟨rfl, chn' hB3 hb5⟩
    · have hpl' : ¬ (p : Int) < l.length := by omega
      have h0 := HY.out
      rw [List.drop_eq_nil_of_le (by omega)] at h0
      subst h0
      go_wp2_with fail
      go_ret
      exact ⟨rfl, hB⟩
theorem rFault_sp (l : List Sp) (wide : Bool) (al : Option Addr) (cap : Nat) (w : World) (hA : SpAt w al l) (hx : ∀ x ∈ l, x.s.size ≤ 60) :
    Calls Tryz.prog 26 #[.slice al l.length cap, .bool wide] w fun e w' => e = .returned (.int .i64 (spFault l wide)) ∧ Below w.heap.size w w' := by
  by_cases h3 : 300 < l.length
  · have h3' : (300 : Int) < l.length := by omega
    have hf : spFault l wide = 2 := by unfold spFault; rw [if_pos h3]
    rw [hf]

    go_enter Tryz.func26, Tryz.ntmps26
    go_wp2
    go_ret
    exact ⟨rfl, Below.refl _ _⟩
  have hf : spFault l wide = sFault (mostOf wide) (-1) l := by unfold spFault; rw [if_neg h3]
  rw [hf]
  cases wide
  · exact rFault_false l al cap w (by omega) hA hx _ rfl
  · exact rFault_true l al cap w (by omega) hA hx _ rfl
end Go.Proofs.YtobpidmlgldnmaaGreatDoor
