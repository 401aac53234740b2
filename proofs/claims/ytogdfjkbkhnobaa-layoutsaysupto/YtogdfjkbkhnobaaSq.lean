/-
  The signs of a text: the answer's.
-/
import Derived.Test.YtogdfjkbkhnobaaAi
import Derived.Test.YtogdfjkbkhnobaaCa
import Derived.Deep.CutBlock
import Derived.Deep.CutRange
import Derived.Deep.DrawnRows
import Derived.Deep.RegionLaw
import Derived.Deep.RegionWith
import Derived.Laws.DeepBits32
import Derived.WalkSmall
namespace Go.Proofs.Ytogdfjkbkhnobaa
open Go.RowKit
set_option maxRecDepth 100000
attribute [local go_sem ↓] Go.wp_at_zero Go.wp_at_succ

/-- What stands at a place of a string. -/
def at0 (s : ByteArray) (p : Nat) : Nat := (s.get! p).toNat
theorem dec_at (s : ByteArray) (p : Nat) : Lib.decodeL (s.data.toList.drop p) = Lib.decodeN (s.size - p) (at0 s p) (at0 s (p + 1)) (at0 s (p + 2)) (at0 s (p + 3)) := by
  rw [Lib.decodeL_drop, Lib.decode_at]; rfl
theorem at0_lt (s : ByteArray) (p : Nat) : at0 s p < 256 := (s.get! p).toNat_lt
theorem at0_eq (s : ByteArray) (p : Nat) (h : p < s.size) : (s[p].toNat : Int) = at0 s p := by
  unfold at0
  cases s with
  | mk a =>
    have h' : p < a.size := h
    show ((a[p]'h').toNat : Int) = ((a[p]!).toNat : Int)
    rw [getElem!_pos a p h']
/-- The four ways in which a sign's bytes may be. -/
theorem dec1 {n b0 b1 b2 b3 : Nat} (h : b0 < 128) : Lib.decodeN n b0 b1 b2 b3 = (b0, 1) := by unfold Lib.decodeN; rw [if_pos h]
theorem decBad {n b0 b1 b2 b3 : Nat} (h : 128 ≤ b0 ∧ b0 < 194 ∨ 245 ≤ b0 ∧ b0 < 256) : Lib.decodeN n b0 b1 b2 b3 = (65533, 1) := Lib.decodeN_bad n b0 b1 b2 b3 h
theorem dec2 {n b0 b1 b2 b3 : Nat} (h : 194 ≤ b0) (h' : b0 < 224) (hn : 1 < n) (h1 : 128 ≤ b1) (h1' : b1 ≤ 191) : Lib.decodeN n b0 b1 b2 b3 = (64 * (b0 - 192) + b1 - 128, 2) := by
  unfold Lib.decodeN
  rw [if_neg (by omega), if_pos (by omega), if_pos (by omega)]
  apply Prod.ext <;> simp only <;> omega
theorem dec2b {n b0 b1 b2 b3 : Nat} (h : 194 ≤ b0) (h' : b0 < 224) (hb : b1 < 256) (h1 : ¬ 1 < n ∨ b1 < 128 ∨ 191 < b1) : Lib.decodeN n b0 b1 b2 b3 = (65533, 1) := by
  unfold Lib.decodeN
  rw [if_neg (by omega), if_neg (by omega), if_neg (by omega), if_neg (by omega)]
set_option maxHeartbeats 1000000 in
theorem dec3 {n b0 b1 b2 b3 : Nat} (h : 224 ≤ b0) (h' : b0 < 240) (hn : 2 < n) (h1 : 128 ≤ b1) (h1' : b1 ≤ 191) (h2 : 128 ≤ b2) (h2' : b2 ≤ 191) (r : Nat) (hr : r = 64 * (64 * (b0 - 224) + b1 - 128) + b2 - 128) : Lib.decodeN n b0 b1 b2 b3 = if r < 2048 ∨ 55295 < r ∧ r < 57344 then (65533, 1) else (r, 3) := by
  unfold Lib.decodeN
  have e : b0 % 16 * 4096 + b1 % 64 * 64 + b2 % 64 = r := by omega
  rw [if_neg (by omega), if_neg (by omega), if_pos (by omega), e]
  by_cases c : r < 2048 ∨ 55295 < r ∧ r < 57344
  · rw [if_pos c, if_neg (by omega)]
  · rw [if_neg c, if_pos (by omega)]
theorem dec3b {n b0 b1 b2 b3 : Nat} (h : 224 ≤ b0) (h' : b0 < 240) (hb : b1 < 256) (hb2 : b2 < 256) (h1 : ¬ 2 < n ∨ b1 < 128 ∨ 191 < b1 ∨ b2 < 128 ∨ 191 < b2) : Lib.decodeN n b0 b1 b2 b3 = (65533, 1) := by
  unfold Lib.decodeN
  rw [if_neg (by omega), if_neg (by omega), if_neg (by omega), if_neg (by omega)]
set_option maxHeartbeats 1000000 in
theorem dec4 {n b0 b1 b2 b3 : Nat} (h : 240 ≤ b0) (h' : b0 < 245) (hn : 3 < n) (h1 : 128 ≤ b1) (h1' : b1 ≤ 191) (h2 : 128 ≤ b2) (h2' : b2 ≤ 191) (h3 : 128 ≤ b3) (h3' : b3 ≤ 191) (r : Nat) (hr : r = 64 * (64 * (64 * (b0 - 240) + b1 - 128) + b2 - 128) + b3 - 128) : Lib.decodeN n b0 b1 b2 b3 = if r < 65536 ∨ 1114111 < r then (65533, 1) else (r, 4) := by
  unfold Lib.decodeN
  have e : b0 % 8 * 262144 + b1 % 64 * 4096 + b2 % 64 * 64 + b3 % 64 = r := by omega
  rw [if_neg (by omega), if_neg (by omega), if_neg (by omega), if_pos (by omega), e]
  by_cases c : r < 65536 ∨ 1114111 < r
  · rw [if_pos c, if_neg (by omega)]
  · rw [if_neg c, if_pos (by omega)]
theorem dec4b {n b0 b1 b2 b3 : Nat} (h : 240 ≤ b0) (h' : b0 < 245) (hb : b1 < 256) (hb2 : b2 < 256) (hb3 : b3 < 256) (h1 : ¬ 3 < n ∨ b1 < 128 ∨ 191 < b1 ∨ b2 < 128 ∨ 191 < b2 ∨ b3 < 128 ∨ 191 < b3) : Lib.decodeN n b0 b1 b2 b3 = (65533, 1) := by
  unfold Lib.decodeN
  rw [if_neg (by omega), if_neg (by omega), if_neg (by omega), if_neg (by omega)]
/-- What the answer makes of a sign's bytes so far. -/
def accR (s : ByteArray) (p base : Nat) : Nat → Nat
  | 0 => base
  | j + 1 => 64 * accR s p base j + at0 s (p + j + 1) - 128
/-- The answer's step: how many bytes more, and where it begins. -/
def leadN (c : Nat) : Option (Nat × Nat) := if c < 128 then some (0, c) else if 194 ≤ c ∧ c < 224 then some (1, c - 192) else if 224 ≤ c ∧ c < 240 then some (2, c - 224) else if 240 ≤ c ∧ c < 245 then some (3, c - 240) else none
/-- Which numbers are no sign's, of so many bytes more. -/
def badR (n r : Nat) : Prop := n = 2 ∧ r < 2048 ∨ n = 3 ∧ r < 65536 ∨ 1114111 < r ∨ 55295 < r ∧ r < 57344
theorem step_none {s : ByteArray} {p : Nat} (h : leadN (at0 s p) = none) : Bad (s.data.toList.drop p) := by
  have hl := at0_lt s p
  unfold Bad
  rw [dec_at, decBad (by unfold leadN at h; repeat' split at h
                         all_goals first | (cases h; done) | omega)]
  exact ⟨rfl, rfl⟩
theorem accR_le (s : ByteArray) (p base : Nat) : ∀ j, accR s p base j + 3 ≤ 64 ^ j * (base + 3)
  | 0 => by simp [accR]
  | j + 1 => by
    have ih := accR_le s p base j
    have h := at0_lt s (p + j + 1)
    show 64 * accR s p base j + at0 s (p + j + 1) - 128 + 3 ≤ _
    rw [Nat.pow_succ, Nat.mul_comm (64 ^ j) 64, Nat.mul_assoc]
    omega
theorem lead_cases {c n base : Nat} (h : leadN c = some (n, base)) : (n = 0 ∧ base = c ∧ c < 128) ∨ (n = 1 ∧ base = c - 192 ∧ 194 ≤ c ∧ c < 224) ∨ (n = 2 ∧ base = c - 224 ∧ 224 ≤ c ∧ c < 240) ∨ (n = 3 ∧ base = c - 240 ∧ 240 ≤ c ∧ c < 245) := by
  unfold leadN at h
  repeat' split at h
  all_goals first | (cases h; done) | (injection h with h; injection h with h1 h2; omega)
theorem bad_of {s : ByteArray} {p : Nat} (h : Lib.decodeN (s.size - p) (at0 s p) (at0 s (p + 1)) (at0 s (p + 2)) (at0 s (p + 3)) = (65533, 1)) : Bad (s.data.toList.drop p) := by
  unfold Bad; rw [dec_at, h]; exact ⟨rfl, rfl⟩
theorem step_short {s : ByteArray} {p n base : Nat} (h : leadN (at0 s p) = some (n, base)) (hp : p < s.size) (hs : s.size ≤ p + n) : Bad (s.data.toList.drop p) := by
  have l1 := at0_lt s (p + 1); have l2 := at0_lt s (p + 2); have l3 := at0_lt s (p + 3)
  rcases lead_cases h with ⟨rfl, _, _⟩ | ⟨rfl, _, a, b⟩ | ⟨rfl, _, a, b⟩ | ⟨rfl, _, a, b⟩
  · omega
  · exact bad_of (dec2b a b l1 (.inl (by omega)))
  · exact bad_of (dec3b a b l1 l2 (.inl (by omega)))
  · exact bad_of (dec4b a b l1 l2 l3 (.inl (by omega)))
theorem step_cont {s : ByteArray} {p n base k : Nat} (h : leadN (at0 s p) = some (n, base)) (h1 : 1 ≤ k) (h2 : k ≤ n) (hc : at0 s (p + k) < 128 ∨ 191 < at0 s (p + k)) : Bad (s.data.toList.drop p) := by
  have l1 := at0_lt s (p + 1); have l2 := at0_lt s (p + 2); have l3 := at0_lt s (p + 3)
  rcases lead_cases h with ⟨rfl, _, _⟩ | ⟨rfl, _, a, b⟩ | ⟨rfl, _, a, b⟩ | ⟨rfl, _, a, b⟩
  · omega
  · obtain rfl : k = 1 := by omega
    exact bad_of (dec2b a b l1 (.inr hc))
  · rcases (by omega : k = 1 ∨ k = 2) with rfl | rfl
    · exact bad_of (dec3b a b l1 l2 (by omega))
    · exact bad_of (dec3b a b l1 l2 (by omega))
  · rcases (by omega : k = 1 ∨ k = 2 ∨ k = 3) with rfl | rfl | rfl
    · exact bad_of (dec4b a b l1 l2 l3 (by omega))
    · exact bad_of (dec4b a b l1 l2 l3 (by omega))
    · exact bad_of (dec4b a b l1 l2 l3 (by omega))
instance (n r : Nat) : Decidable (badR n r) := by unfold badR; infer_instance
theorem step_dec {s : ByteArray} {p n base : Nat} (h : leadN (at0 s p) = some (n, base)) (hs : p + n < s.size) (hc : ∀ k, 1 ≤ k → k ≤ n → 128 ≤ at0 s (p + k) ∧ at0 s (p + k) ≤ 191) :
    Lib.decodeL (s.data.toList.drop p) = if badR n (accR s p base n) then (65533, 1) else (accR s p base n, n + 1) := by
  rw [dec_at]
  rcases lead_cases h with ⟨rfl, rfl, a⟩ | ⟨rfl, rfl, a, b⟩ | ⟨rfl, rfl, a, b⟩ | ⟨rfl, rfl, a, b⟩
  · rw [dec1 a, if_neg (by unfold badR accR; omega)]; rfl
  · obtain ⟨c1, c2⟩ := hc 1 (by omega) (by omega)
    rw [dec2 a b (by omega) c1 c2, if_neg (by simp only [badR, accR, Nat.add_zero]; omega)]; rfl
  · obtain ⟨c1, c2⟩ := hc 1 (by omega) (by omega)
    obtain ⟨c3, c4⟩ := hc 2 (by omega) (by omega)
    rw [dec3 a b (by omega) c1 c2 c3 c4 (accR s p (at0 s p - 224) 2) rfl]
    have hu : accR s p (at0 s p - 224) 2 ≤ 65535 := by show 64 * (64 * (at0 s p - 224) + at0 s (p + 1) - 128) + at0 s (p + 2) - 128 ≤ 65535; omega
    generalize accR s p (at0 s p - 224) 2 = r at *
    by_cases q : r < 2048 ∨ 55295 < r ∧ r < 57344
    · rw [if_pos q, if_pos (by unfold badR; omega)]
    · rw [if_neg q, if_neg (by unfold badR; omega)]
  · obtain ⟨c1, c2⟩ := hc 1 (by omega) (by omega)
    obtain ⟨c3, c4⟩ := hc 2 (by omega) (by omega)
    obtain ⟨c5, c6⟩ := hc 3 (by omega) (by omega)
    rw [dec4 a b (by omega) c1 c2 c3 c4 c5 c6 (accR s p (at0 s p - 240) 3) rfl]
    generalize accR s p (at0 s p - 240) 3 = r at *
    by_cases q : r < 65536 ∨ 1114111 < r
    · rw [if_pos q, if_pos (by unfold badR; omega)]
    · rw [if_neg q, if_neg (by unfold badR; omega)]
set_option maxHeartbeats 2000000 in
theorem runes_says (s : ByteArray) (w : World) (hs : s.size ≤ 2000000) :
    Calls Try.prog 16 #[.string s] w fun e w' => ((rns s.data.toList = none ∧ e = .returned (.tuple #[.slice none 0 0, .bool false])) ∨ ∃ (rs : List Nat) (v : Value), rns s.data.toList = some rs ∧ e = .returned (.tuple #[v, .bool true]) ∧ Own64 w' w.heap.size v rs) ∧ Below w.heap.size w w' := by
  go_enter Try.func16, Try.ntmps16
  go_wp2_with fail
  go_loopw [4, 5] (fun t i wr => ∃ (pos : Nat) (a : List Nat), i = .int .i64 pos ∧ a.length ≤ pos ∧ pos ≤ s.size ∧ Hid (rns s.data.toList = (rns (s.data.toList.drop pos)).map fun q => a ++ q) ∧ Own64 wr w.heap.size t a ∧ Below w.heap.size w wr) (fun _ i _ => s.size - (intOf i).toNat)
  case atStart => exact ⟨0, [], rfl, Nat.le_refl _, Nat.zero_le _, by rw [List.drop_zero]; cases rns s.data.toList <;> rfl, Own64.nil _ _, Below.refl _ _⟩
  case round =>
    obtain ⟨pos, a, rfl, ha, hpl, HR, hown, hB⟩ := hrel
    have hBs := hB.size
    by_cases hp : pos < s.size
    · have hp' : (pos : Int) < s.size := by omega
      have h0 := at0_eq s pos hp
      have hlt := at0_lt s pos
      have hlt' : (at0 s pos : Int) < 256 := by omega
      have hne : s.data.toList.drop pos ≠ [] := fun q => by
        have := congrArg List.length q
        rw [List.length_drop] at this
        have h2 : s.data.toList.length = s.size := by simp
        simp only [List.length_nil] at this; omega
      have HB := hid (fun (q : Bad (s.data.toList.drop pos)) => show rns s.data.toList = none by rw [HR.out, rns_step _ hne, if_pos q]; rfl)
      go_upto_block 2 with fail
      go_cut [7, 8] from 20 to 49 (fun n r wx => ∃ n' b' : Nat, n = .int .i64 n' ∧ r = .int .i64 b' ∧ leadN (at0 s pos) = some (n', b') ∧ wx = wr)
      case first =>
        by_cases c1 : at0 s pos < 128
        · have c1' : (at0 s pos : Int) < 128 := by omega
          have HL := hid (show leadN (at0 s pos) = some (0, at0 s pos) by unfold leadN; rw [if_pos c1])
          go_wp2_with fail
          go_meet
          case rel => exact ⟨0, at0 s pos, rfl, rfl, HL.out, rfl⟩
        have c1' : ¬ (at0 s pos : Int) < 128 := by omega
        by_cases c2 : at0 s pos < 194
        · have c2' : ¬ (194 : Int) ≤ (at0 s pos : Int) := by omega
          have c4' : ¬ (224 : Int) ≤ (at0 s pos : Int) := by omega
          have c6' : ¬ (240 : Int) ≤ (at0 s pos : Int) := by omega
          have HL := hid (show leadN (at0 s pos) = none by unfold leadN; rw [if_neg c1, if_neg (by omega), if_neg (by omega), if_neg (by omega)])
          go_wp2_with fail
          go_ret2
          exact ⟨.inl ⟨HB.out (step_none HL.out), rfl⟩, hB⟩
        have c2' : (194 : Int) ≤ (at0 s pos : Int) := by omega
        by_cases c3 : at0 s pos < 224
        · have c3' : (at0 s pos : Int) < 224 := by omega
          have HL := hid (show leadN (at0 s pos) = some (1, at0 s pos - 192) by unfold leadN; rw [if_neg c1, if_pos (by omega)])
          go_wp2_with fail
          go_meet
          case rel => exact ⟨1, at0 s pos - 192, rfl, by go_num, HL.out, rfl⟩
        have c3' : ¬ (at0 s pos : Int) < 224 := by omega
        have c4' : (224 : Int) ≤ (at0 s pos : Int) := by omega
        by_cases c5 : at0 s pos < 240
        · have c5' : (at0 s pos : Int) < 240 := by omega
          have HL := hid (show leadN (at0 s pos) = some (2, at0 s pos - 224) by unfold leadN; rw [if_neg c1, if_neg (by omega), if_pos (by omega)])
          go_wp2_with fail
          go_meet
          case rel => exact ⟨2, at0 s pos - 224, rfl, by go_num, HL.out, rfl⟩
        have c5' : ¬ (at0 s pos : Int) < 240 := by omega
        have c6' : (240 : Int) ≤ (at0 s pos : Int) := by omega
        by_cases c7 : at0 s pos < 245
        · have c7' : (at0 s pos : Int) < 245 := by omega
          have HL := hid (show leadN (at0 s pos) = some (3, at0 s pos - 240) by unfold leadN; rw [if_neg c1, if_neg (by omega), if_neg (by omega), if_pos (by omega)])
          go_wp2_with fail
          go_meet
          case rel => exact ⟨3, at0 s pos - 240, rfl, by go_num, HL.out, rfl⟩
        · have c7' : ¬ (at0 s pos : Int) < 245 := by omega
          have HL := hid (show leadN (at0 s pos) = none by unfold leadN; rw [if_neg c1, if_neg (by omega), if_neg (by omega), if_neg (by omega)])
          go_wp2_with fail
          go_ret2
          exact ⟨.inl ⟨HB.out (step_none HL.out), rfl⟩, hB⟩
      case rest =>
        obtain ⟨n, b, rfl, rfl, hlead, rfl⟩ := hcut
        have hn3 : n ≤ 3 := by rcases lead_cases hlead with q | q | q | q <;> omega
        have hb : b ≤ 127 := by rcases lead_cases hlead with q | q | q | q <;> omega
        have HLD := hid hlead
        have hn3' : (n : Int) ≤ 3 := by omega
        clear hlead
        by_cases hsh : s.size ≤ pos + n
        · have hsh' : (s.size : Int) ≤ (pos : Int) + n := by omega
          go_wp2_with fail
          go_ret2
          exact ⟨.inl ⟨HB.out (step_short HLD.out hp hsh), rfl⟩, hB⟩
        have hsh' : ¬ (s.size : Int) ≤ (pos : Int) + n := by omega
        go_wp2_with fail
        go_loopw [8, 9] (fun r k wq => ∃ (m R : Nat), k = .int .i64 (m : Int) ∧ (1 ≤ m ∧ m ≤ n + 1) ∧ r = .int .i64 (R : Int) ∧ R ≤ 100000000 ∧ Hid (R = accR s pos b (m - 1) ∧ ∀ i, 1 ≤ i → i < m → 128 ≤ at0 s (pos + i) ∧ at0 s (pos + i) ≤ 191) ∧ wq = wc) (fun _ k _ => n + 1 - (intOf k).toNat)
        case atStart => exact ⟨1, b, rfl, ⟨by omega, by omega⟩, rfl, by omega, ⟨rfl, fun i h1 h2 => by omega⟩, rfl⟩
        case round =>
          obtain ⟨m, R, rfl, ⟨hm1, hm2⟩, rfl, hR, HC, rfl⟩ := hrel
          have hR' : (R : Int) ≤ 100000000 := by omega
          have hm1' : (1 : Int) ≤ (m : Int) := by omega
          by_cases hmn : m ≤ n
          · have hmn' : (m : Int) ≤ n := by omega
            obtain ⟨q, hq⟩ : ∃ q, q = pos + m := ⟨_, rfl⟩
            have hqe : (pos : Int) + (m : Int) = (q : Int) := by omega
            have hql : (q : Int) < s.size := by omega
            have hqn : q < s.size := by omega
            have h1 := at0_eq s q hqn
            have hlt1 := at0_lt s q
            have HQ := hid (And.intro hq (show at0 s q = at0 s (pos + m) by rw [hq]))
            obtain ⟨d, hd⟩ : ∃ d, at0 s q = d := ⟨_, rfl⟩
            rw [hd] at h1 hlt1
            have HD := hid hd
            have hlt1' : (d : Int) < 256 := by omega
            have hacc : accR s pos b m = 64 * R + d - 128 := by
              obtain ⟨k, rfl⟩ : ∃ k, m = k + 1 := ⟨m - 1, by omega⟩
              show 64 * accR s pos b k + at0 s (pos + k + 1) - 128 = _
              have e1 := HC.out.1
              rw [Nat.add_sub_cancel] at e1
              rw [← e1, ← hd, hq]; rfl
            have hbig : 64 * R + d - 128 ≤ 100000000 := by
              have z := accR_le s pos b m
              rw [hacc] at z
              rcases (by omega : m = 1 ∨ m = 2 ∨ m = 3) with rfl | rfl | rfl <;> omega
            have HACC := hid (And.intro hacc hbig)
            have hqb : (q : Int) ≤ 2000000 := by omega
            clear hacc hbig hd hq hlt1 hlt hne h0 hlt' hp ha hpl hb hsh
            by_cases d1 : (d : Int) < 128
            · go_wp2_with fail
              go_ret2
              exact ⟨.inl ⟨HB.out (step_cont (k := m) HLD.out hm1 hmn (.inl (by rw [← HQ.out.2, HD.out]; omega))), rfl⟩, hB⟩
            by_cases d2 : (191 : Int) < (d : Int)
            · go_wp2_with fail
              go_ret2
              exact ⟨.inl ⟨HB.out (step_cont (k := m) HLD.out hm1 hmn (.inr (by rw [← HQ.out.2, HD.out]; omega))), rfl⟩, hB⟩
            go_wp2_with fail
            go_roundw
            case rel =>
              refine ⟨m + 1, 64 * R + d - 128, by go_num, ⟨by omega, by omega⟩, by congr 1; omega, HACC.out.2, hid ⟨?_, fun i q1 q2 => ?_⟩, by first | rfl | trivial⟩
              · rw [Nat.add_sub_cancel]; exact HACC.out.1.symm
              · by_cases qq : i = m
                · subst qq
                  rw [← HQ.out.2, HD.out]
                  exact ⟨by omega, by omega⟩
                · exact HC.out.2 i q1 (by omega)
            case measure => simp [intOf]; omega
          · obtain ⟨j, rfl⟩ : ∃ j, m = j + 1 := ⟨m - 1, by omega⟩
            obtain rfl : j = n := by omega
            have hjn' : ¬ ((j + 1 : Nat) : Int) ≤ (j : Int) := by omega
            have HC2 := hid (show ∀ k, 1 ≤ k → k ≤ j → 128 ≤ at0 s (pos + k) ∧ at0 s (pos + k) ≤ 191 from fun k q1 q2 => HC.out.2 k q1 (by omega))
            have hRe : R = accR s pos b j := HC.out.1
            have hdec := step_dec HLD.out (by omega) HC2.out
            have hbnd : (j = 0 → accR s pos b j ≤ 127) ∧ (j = 1 → accR s pos b j ≤ 2047) ∧ (j = 2 → accR s pos b j ≤ 65535) := by
              have l0 := at0_lt s pos
              refine ⟨fun q => ?_, fun q => ?_, fun q => ?_⟩
              · subst q; exact hb
              · subst q
                obtain ⟨c1, c2⟩ := HC2.out 1 (by omega) (by omega)
                rcases lead_cases HLD.out with q | q | q | q
                all_goals first | omega | (show 64 * b + at0 s (pos + 1) - 128 ≤ 2047; omega)
              · subst q
                obtain ⟨c1, c2⟩ := HC2.out 1 (by omega) (by omega)
                obtain ⟨c3, c4⟩ := HC2.out 2 (by omega) (by omega)
                rcases lead_cases HLD.out with q | q | q | q
                all_goals first | omega | (show 64 * (64 * b + at0 s (pos + 1) - 128) + at0 s (pos + 2) - 128 ≤ 65535; omega)
            rw [← hRe] at hdec hbnd
            clear HC HC2 hRe
            have HDEC := hid hdec
            have HBND := hid hbnd
            clear hdec hbnd
            go_upto_region 27 with fail
            have hsh2 : pos + j < s.size := by omega
            clear hlt hlt' h0 hm1 hm2 hm1' hmn hsh hsh'
            go_cut [103] from 78 to 103 (fun t wx => t = .bool (decide (badR j R)) ∧ wx = wr)
            case first =>
              have HK := HBND.out
              clear HBND
              rcases (by omega : j = 0 ∨ j = 1 ∨ j = 2 ∨ j = 3) with rfl | rfl | rfl | rfl
              · have hk := HK.1 rfl
                have hq : R < 2048 := by omega
                have D := hid (decide_eq_false (show ¬ badR 0 R by unfold badR; omega))
                have t1 : (R : Int) < 2048 := by omega
                have t2 : (R : Int) < 65536 := by omega
                have t3 : ¬ (1114111 : Int) < R := by omega
                have t4 : ¬ (55295 : Int) < R := by omega
                have t5 : (R : Int) < 57344 := by omega
                clear hq HK hk
                go_wp2_with fail
                go_meet
                case rel => exact ⟨by rw [D.out], rfl⟩
              · have hk := HK.2.1 rfl
                have hq : R < 2048 := by omega
                have D := hid (decide_eq_false (show ¬ badR 1 R by unfold badR; omega))
                have t1 : (R : Int) < 2048 := by omega
                have t2 : (R : Int) < 65536 := by omega
                have t3 : ¬ (1114111 : Int) < R := by omega
                have t4 : ¬ (55295 : Int) < R := by omega
                have t5 : (R : Int) < 57344 := by omega
                clear hq HK hk
                go_wp2_with fail
                go_meet
                case rel => exact ⟨by rw [D.out], rfl⟩
              · have hk := HK.2.2 rfl
                rcases (by omega : R < 2048 ∨ 2048 ≤ R ∧ R < 55296 ∨ 55296 ≤ R ∧ R < 57344 ∨ 57344 ≤ R ∧ R < 65536) with hq | hq | hq | hq
                · have D := hid (decide_eq_true (show badR 2 R by unfold badR; omega))
                  have t1 : (R : Int) < 2048 := by omega
                  have t2 : (R : Int) < 65536 := by omega
                  have t3 : ¬ (1114111 : Int) < R := by omega
                  have t4 : ¬ (55295 : Int) < R := by omega
                  have t5 : (R : Int) < 57344 := by omega
                  clear hq HK hk
                  go_wp2_with fail
                  go_meet
                  case rel => exact ⟨by rw [D.out], rfl⟩
                · have D := hid (decide_eq_false (show ¬ badR 2 R by unfold badR; omega))
                  have t1 : ¬ (R : Int) < 2048 := by omega
                  have t2 : (R : Int) < 65536 := by omega
                  have t3 : ¬ (1114111 : Int) < R := by omega
                  have t4 : ¬ (55295 : Int) < R := by omega
                  have t5 : (R : Int) < 57344 := by omega
                  clear hq HK hk
                  go_wp2_with fail
                  go_meet
                  case rel => exact ⟨by rw [D.out], rfl⟩
                · have D := hid (decide_eq_true (show badR 2 R by unfold badR; omega))
                  have t1 : ¬ (R : Int) < 2048 := by omega
                  have t2 : (R : Int) < 65536 := by omega
                  have t3 : ¬ (1114111 : Int) < R := by omega
                  have t4 : (55295 : Int) < R := by omega
                  have t5 : (R : Int) < 57344 := by omega
                  clear hq HK hk
                  go_wp2_with fail
                  go_meet
                  case rel => exact ⟨by rw [D.out], rfl⟩
                · have D := hid (decide_eq_false (show ¬ badR 2 R by unfold badR; omega))
                  have t1 : ¬ (R : Int) < 2048 := by omega
                  have t2 : (R : Int) < 65536 := by omega
                  have t3 : ¬ (1114111 : Int) < R := by omega
                  have t4 : (55295 : Int) < R := by omega
                  have t5 : ¬ (R : Int) < 57344 := by omega
                  clear hq HK hk
                  go_wp2_with fail
                  go_meet
                  case rel => exact ⟨by rw [D.out], rfl⟩
              · skip
                rcases (by omega : R < 2048 ∨ 2048 ≤ R ∧ R < 55296 ∨ 55296 ≤ R ∧ R < 57344 ∨ 57344 ≤ R ∧ R < 65536 ∨ 65536 ≤ R ∧ R < 1114112 ∨ 1114112 ≤ R) with hq | hq | hq | hq | hq | hq
                · have D := hid (decide_eq_true (show badR 3 R by unfold badR; omega))
                  have t1 : (R : Int) < 2048 := by omega
                  have t2 : (R : Int) < 65536 := by omega
                  have t3 : ¬ (1114111 : Int) < R := by omega
                  have t4 : ¬ (55295 : Int) < R := by omega
                  have t5 : (R : Int) < 57344 := by omega
                  clear hq HK
                  go_wp2_with fail
                  go_meet
                  case rel => exact ⟨by rw [D.out], rfl⟩
                · have D := hid (decide_eq_true (show badR 3 R by unfold badR; omega))
                  have t1 : ¬ (R : Int) < 2048 := by omega
                  have t2 : (R : Int) < 65536 := by omega
                  have t3 : ¬ (1114111 : Int) < R := by omega
                  have t4 : ¬ (55295 : Int) < R := by omega
                  have t5 : (R : Int) < 57344 := by omega
                  clear hq HK
                  go_wp2_with fail
                  go_meet
                  case rel => exact ⟨by rw [D.out], rfl⟩
                · have D := hid (decide_eq_true (show badR 3 R by unfold badR; omega))
                  have t1 : ¬ (R : Int) < 2048 := by omega
                  have t2 : (R : Int) < 65536 := by omega
                  have t3 : ¬ (1114111 : Int) < R := by omega
                  have t4 : (55295 : Int) < R := by omega
                  have t5 : (R : Int) < 57344 := by omega
                  clear hq HK
                  go_wp2_with fail
                  go_meet
                  case rel => exact ⟨by rw [D.out], rfl⟩
                · have D := hid (decide_eq_true (show badR 3 R by unfold badR; omega))
                  have t1 : ¬ (R : Int) < 2048 := by omega
                  have t2 : (R : Int) < 65536 := by omega
                  have t3 : ¬ (1114111 : Int) < R := by omega
                  have t4 : (55295 : Int) < R := by omega
                  have t5 : ¬ (R : Int) < 57344 := by omega
                  clear hq HK
                  go_wp2_with fail
                  go_meet
                  case rel => exact ⟨by rw [D.out], rfl⟩
                · have D := hid (decide_eq_false (show ¬ badR 3 R by unfold badR; omega))
                  have t1 : ¬ (R : Int) < 2048 := by omega
                  have t2 : ¬ (R : Int) < 65536 := by omega
                  have t3 : ¬ (1114111 : Int) < R := by omega
                  have t4 : (55295 : Int) < R := by omega
                  have t5 : ¬ (R : Int) < 57344 := by omega
                  clear hq HK
                  go_wp2_with fail
                  go_meet
                  case rel => exact ⟨by rw [D.out], rfl⟩
                · have D := hid (decide_eq_true (show badR 3 R by unfold badR; omega))
                  have t1 : ¬ (R : Int) < 2048 := by omega
                  have t2 : ¬ (R : Int) < 65536 := by omega
                  have t3 : (1114111 : Int) < R := by omega
                  have t4 : (55295 : Int) < R := by omega
                  have t5 : ¬ (R : Int) < 57344 := by omega
                  clear hq HK
                  go_wp2_with fail
                  go_meet
                  case rel => exact ⟨by rw [D.out], rfl⟩
            case rest =>
              obtain ⟨rfl, rfl⟩ := hcut
              by_cases q : badR j R
              · have q' : decide (badR j R) = true := decide_eq_true q
                rw [q']
                go_wp2_with fail
                go_ret2
                have hd := HDEC.out
                rw [if_pos q] at hd
                exact ⟨.inl ⟨HB.out (by unfold Bad; rw [hd]; exact ⟨rfl, rfl⟩), rfl⟩, hB⟩
              · have q' : decide (badR j R) = false := decide_eq_false q
                rw [q']
                have hd := HDEC.out
                rw [if_neg q] at hd
                have hnb : ¬ Bad (s.data.toList.drop pos) := fun z => by
                  unfold Bad at z
                  rw [hd] at z
                  obtain ⟨z1, z2⟩ := z
                  simp only at z1 z2
                  rcases (by omega : j = 0) with rfl
                  have := HBND.out.1 rfl
                  omega
                have HN := hid (show rns s.data.toList = (rns (s.data.toList.drop (pos + (j + 1)))).map fun x => (a ++ [R]) ++ x by
                  rw [HR.out, rns_step _ hne, if_neg hnb, hd]
                  simp only [List.drop_drop]
                  cases rns (s.data.toList.drop (pos + (j + 1))) <;> simp)
                clear q hd hnb
                go_wp2_with (at_builtin; refine wpApp64 rfl (.tmp 104) (.tmp 106) rfl w.heap.size _ a rfl (hown.alloc _) _ [R] 1 1 rfl rfl one64 (by omega) (by simp; omega) ?_)
                intro v2 w2 ho2 hg2
                have hb2 := hB.trans (hown.below hg2.unalloc hBs)
                go_wp2
                go_roundw
                case rel => exact ⟨pos + (j + 1), a ++ [R], by go_num, by simp; omega, by omega, HN, ho2, hb2⟩
                case measure => simp [intOf]; omega
    · have hp' : ¬ (pos : Int) < s.size := by omega
      go_wp2_with fail
      go_ret2
      refine ⟨.inr ⟨a, ?_, u4, rfl, hown⟩, hB⟩
      rw [HR.out, List.drop_eq_nil_of_le (by simp; omega)]
      simp [rns_nil]
end Go.Proofs.Ytogdfjkbkhnobaa
