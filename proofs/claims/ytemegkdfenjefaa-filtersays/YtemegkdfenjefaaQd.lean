/-
  Filters of the program: digits to the base 85 are made.
-/
import Derived.Test.YtemegkdfenjefaaQc
import Derived.Laws.BitsLemmas
namespace Go.Proofs.Ytemegkdfenjefaa
open Go.RowKit
set_option maxRecDepth 100000

/-- The first k bytes as a number. -/
def pn (l : List UInt8) : Nat → Nat
  | 0 => 0
  | k + 1 => 256 * pn l k + (l.getD k 0).toNat
theorem pn_lt (l : List UInt8) : ∀ k, pn l k < 256 ^ k
  | 0 => by simp [pn]
  | k + 1 => by
    have := pn_lt l k
    have h := (l.getD k 0).toNat_lt
    rw [pn, Nat.pow_succ]; omega
theorem pn_4 (l : List UInt8) : pn l 4 = num4 l := by
  simp only [pn, num4]; omega
theorem pn_3 (l : List UInt8) (k : Nat) (h : k ≤ 3) : pn l k < 16777216 :=
  Nat.lt_of_lt_of_le (pn_lt l k) (Nat.le_trans (Nat.pow_le_pow_right (by omega) h) (by decide))
theorem wraps_u64 (n : Int) (h : 0 ≤ n) (h1 : n < 2 ^ 40) : IntKind.u64.wrap n = n := IntWalk.u64_in _ (by omega)
theorem or_byte (x y : Int) (hx : 0 ≤ x) (hm : x % 256 = 0) (h1 : x < 1099511627776) (hy : 0 ≤ y) (hy1 : y < 256) : bits .or .u64 x y = x + y :=
  bits_join .u64 40 (by decide) wraps_u64 8 x y hx hm h1 hy hy1 (by omega)
set_option maxHeartbeats 400000 in
theorem pNumber (s : ByteArray) (w : World) :
    Calls Try.prog 28 #[.string s] w fun e w' => e = .returned (.int .u64 (num4 s.data.toList : Nat)) ∧ w' = w := by
  go_enter Try.func28, Try.ntmps28
  go_wp2
  go_loop [3, 5] (fun n i => ∃ k : Nat, k ≤ 4 ∧ i = .int .i64 k ∧ n = .int .u64 (pn s.data.toList k : Nat)) (fun _ i => 4 - (intOf i).toNat)
  case atStart => exact ⟨0, by omega, rfl, rfl⟩
  case round =>
    obtain ⟨k, hk, rfl, rfl⟩ := hrel
    by_cases hlt : (k : Int) < 4
    · have hb := pn_3 s.data.toList k (by omega)
      have HN := hid (show pn s.data.toList (k + 1) = 256 * pn s.data.toList k + (s.data.toList.getD k 0).toNat from rfl)
      generalize pn s.data.toList k = p at *
      by_cases hks : (k : Int) < s.size
      · have hks' : k < s.size := by omega
        have HC := hid (show (s.data.toList.getD k 0).toNat = s[k].toNat by
          rw [List.getD_eq_getElem?_getD, List.getElem?_eq_getElem (by simpa using hks')]; rfl)
        have hc := s[k].toNat_lt
        have hor := or_byte ((p : Int) * 256) (s[k].toNat : Int) (by omega) (by omega) (by omega) (by omega) (by omega)
        go_wp2
        go_round
        case rel => exact ⟨k + 1, by omega, by go_num, by rw [HN.out, HC.out]; exact congrArg (Value.int .u64) (by omega)⟩
        case measure => simp [intOf]; omega
      · have HC := hid (show (s.data.toList.getD k 0).toNat = 0 by
          rw [List.getD_eq_getElem?_getD, List.getElem?_eq_none (by simp; omega)]; rfl)
        go_wp2
        go_round
        case rel => exact ⟨k + 1, by omega, by go_num, by rw [HN.out, HC.out]; exact congrArg (Value.int .u64) (by omega)⟩
        case measure => simp [intOf]; omega
    · obtain rfl : k = 4 := by omega
      have HE := hid (pn_4 s.data.toList)
      go_wp2
      go_ret
      exact ⟨ret_int (by rw [HE.out]), rfl⟩

theorem At.other {w : World} {b b' o : Nat} {t : TypeId} {cs : Array Value} {v : Value} (h : At w b t cs) (hne : b ≠ b') : At (w.setCell ⟨b', o, none⟩ v) b t cs :=
  (heap_setCell_other w ⟨b', o, none⟩ b v hne).trans h
/-- A byte's cell. -/
def dcell (n k j : Nat) : Value := .int .u8 (if 5 ≤ j + k then (dig5 n j : Int) else 0)
def dcells (n k : Nat) : Array Value := #[dcell n k 0, dcell n k 1, dcell n k 2, dcell n k 3, dcell n k 4]
theorem dcells_step (n k : Nat) (hk : k < 5) (w : World) (b : Nat) (t : TypeId) (h : At w b t (dcells n k)) : At (w.setCell ⟨b, 4 - k, none⟩ (.int .u8 (dig5 n (4 - k) : Int))) b t (dcells n (k + 1)) := by
  have q := heap_setCell_same w b (4 - k) _ t (.int .u8 (dig5 n (4 - k) : Int)) h
  rcases (by omega : k = 0 ∨ k = 1 ∨ k = 2 ∨ k = 3 ∨ k = 4) with rfl | rfl | rfl | rfl | rfl <;> exact q
theorem pow85 (n k m : Nat) (hk : k < 5) (hm : m = n / 85 ^ k) : m % 85 = dig5 n (4 - k) := by
  subst hm
  rcases (by omega : k = 0 ∨ k = 1 ∨ k = 2 ∨ k = 3 ∨ k = 4) with rfl | rfl | rfl | rfl | rfl <;> rfl
theorem below_set5 {B : Nat} {a w : World} (h : Below B a w) {b : Nat} (hb : B ≤ b) (v0 v1 v2 v3 v4 : Value) :
    Below B a (((((w.setCell ⟨b, 0, none⟩ v0).setCell ⟨b, 1, none⟩ v1).setCell ⟨b, 2, none⟩ v2).setCell ⟨b, 3, none⟩ v3).setCell ⟨b, 4, none⟩ v4) :=
  ((((h.setCell hb _).setCell hb _).setCell hb _).setCell hb _).setCell hb _
set_option maxHeartbeats 1000000 in
theorem pDigits (n : Nat) (w : World) (hn : n < 4294967296) :
    Calls Try.prog 30 #[.int .u64 n] w fun e w' => e = .returned (.agg (dcells n 5)) ∧ Below w.heap.size w w' := by
  go_enter Try.func30, Try.ntmps30
  go_wp2
  go_loopw [0, 5] (fun m i wr => ∃ k q : Nat, k ≤ 5 ∧ i = .int .i64 k ∧ m = .int .u64 q ∧ q = n / 85 ^ k ∧ At wr (w.heap.size + 1) 53 (dcells n k) ∧ At wr w.heap.size 53 #[.int .u8 0, .int .u8 0, .int .u8 0, .int .u8 0, .int .u8 0] ∧ Below w.heap.size w wr) (fun _ i _ => 5 - (intOf i).toNat)
  case atStart =>
    have h1 := At.new w #[.int .u8 0, .int .u8 0, .int .u8 0, .int .u8 0, .int .u8 0] 53 rfl
    exact ⟨0, n, by omega, rfl, rfl, by simp, At.new _ _ _ (by simp), h1.alloc _, ((Below.refl _ _).alloc (Nat.le_refl _) _).alloc (by simp) _⟩
  case round =>
    obtain ⟨k, q, hk, rfl, rfl, hq, h1, h2, hb⟩ := hrel
    have HQ := hid hq
    have HN := hid hn
    have hq1 : (0 : Int) ≤ q := by omega
    have hq2 : (q : Int) < 4294967296 := by
      have : q ≤ n := by rw [hq]; exact Nat.div_le_self _ _
      omega
    clear hq hn
    by_cases hlt : (k : Int) < 5
    · have HD := hid (pow85 n k q (by omega) HQ.out)
      have hd : (q : Int) % 85 = (dig5 n (4 - k) : Int) := by have := HD.out; omega
      have hd2 := dig5_lt n (4 - k)
      generalize hdd : dig5 n (4 - k) = d at *
      have HDD := hid hdd
      clear hdd
      have hc := (h1.cell (4 - k)).trans (show (dcells n k)[4 - k]? = some (dcell n k (4 - k)) by
        rcases (by omega : k = 0 ∨ k = 1 ∨ k = 2 ∨ k = 3 ∨ k = 4) with rfl | rfl | rfl | rfl | rfl <;> rfl)
      have hf := h1.free (4 - k)
      have ho : (4 - (k : Int)).toNat = 4 - k := by omega
      go_wp2
      go_roundw
      case rel =>
        have hs := dcells_step n k (by omega) wr _ _ h1
        rw [HDD.out] at hs
        refine ⟨k + 1, q / 85, by omega, by go_num, by go_num, ?_, hs, h2.other (by omega), hb.setCell (show w.heap.size ≤ w.heap.size + 1 by omega) _⟩
        rw [HQ.out, Nat.div_div_eq_div_mul]; rfl
      case measure => simp [intOf]; omega
    · obtain rfl : k = 5 := by omega
      have c0 : wr.cell? ⟨w.heap.size + 1, 0, none⟩ = some (.int .u8 (dig5 n 0 : Int)) := h1.cell 0
      have c1 : wr.cell? ⟨w.heap.size + 1, 1, none⟩ = some (.int .u8 (dig5 n 1 : Int)) := h1.cell 1
      have c2 : wr.cell? ⟨w.heap.size + 1, 2, none⟩ = some (.int .u8 (dig5 n 2 : Int)) := h1.cell 2
      have c3 : wr.cell? ⟨w.heap.size + 1, 3, none⟩ = some (.int .u8 (dig5 n 3 : Int)) := h1.cell 3
      have c4 : wr.cell? ⟨w.heap.size + 1, 4, none⟩ = some (.int .u8 (dig5 n 4 : Int)) := h1.cell 4
      have e0 : wr.cell? ⟨w.heap.size, 0, none⟩ = some (.int .u8 0) := h2.cell 0
      have e1 : wr.cell? ⟨w.heap.size, 1, none⟩ = some (.int .u8 0) := h2.cell 1
      have e2 : wr.cell? ⟨w.heap.size, 2, none⟩ = some (.int .u8 0) := h2.cell 2
      have e3 : wr.cell? ⟨w.heap.size, 3, none⟩ = some (.int .u8 0) := h2.cell 3
      have e4 : wr.cell? ⟨w.heap.size, 4, none⟩ = some (.int .u8 0) := h2.cell 4
      have f := h2.free
      go_wp2
      refine bodyPost_ret (v := .agg (dcells n 5)) (by simp [results, Try.results30, go_sem, e0, e1, e2, e3, e4]; rfl) rfl ⟨rfl, ?_⟩
      exact below_set5 hb (Nat.le_refl _) _ _ _ _ _
end Go.Proofs.Ytemegkdfenjefaa
