/-
  Numbers of four digits to the base 16, as the library reads them.
-/
import Derived.Test.YtggojafapieliabDoorCb
import Derived.Test.YtggojafapieliabDoorBx
import Derived.Test.YtggojafapieliabDoorCc
import Derived.Test.YtggojafapieliabDoorShelf
import Derived.Laws.BitsLemmas
import Derived.Deep.DrawnRows
import Derived.Test.YtggojafapieliabDoorAm
namespace Go.Proofs.YtggojafapieliabDoor
open Go.RowKit
set_option maxRecDepth 100000
attribute [local go_sem ↓] Go.wp_at_zero Go.wp_at_succ

/-- The number that digits tell. -/
def hxN (xs : List Nat) : Nat := xs.foldl (fun a x => 16 * a + x) 0
theorem hxN_snoc (xs : List Nat) (x : Nat) : hxN (xs ++ [x]) = 16 * hxN xs + x := by unfold hxN; simp
theorem hxN_lt' : ∀ (n : Nat) (xs : List Nat), xs.length = n → (∀ x ∈ xs, x < 16) → hxN xs < 16 ^ n
  | 0, xs, h, _ => by rw [List.eq_nil_of_length_eq_zero h]; decide
  | n + 1, xs, h, hx => by
    have hne : xs ≠ [] := fun q => by rw [q] at h; cases h
    rw [← List.dropLast_concat_getLast hne] at hx ⊢
    have a := hxN_lt' n xs.dropLast (by rw [List.length_dropLast]; omega) (fun y hy => hx y (List.mem_append.2 (.inl hy)))
    have b := hx (xs.getLast hne) (List.mem_append.2 (.inr (by simp)))
    rw [hxN_snoc, Nat.pow_succ]; omega
theorem hxN_take (xs : List Nat) (k : Nat) (hk : k ≤ 4) (hx : ∀ x ∈ xs, x < 16) : hxN (xs.take k) < 65536 := by
  have q := hxN_lt' (xs.take k).length (xs.take k) rfl (fun x h => hx x (List.mem_of_mem_take h))
  have h4 : (xs.take k).length ≤ 4 := by rw [List.length_take]; omega
  exact Nat.lt_of_lt_of_le q (Nat.le_trans (Nat.pow_le_pow_right (by decide) h4) (by decide))
theorem lower_hex {c : Int} (h0 : 65 ≤ c) (h1 : c ≤ 70) (w : World) : Calls Tryd.prog 115 #[.int .u8 c] w fun e w' => e = .returned (.int .u8 (c + 32)) ∧ w' = w := by
  have e : bits .or .u8 c 32 = c + 32 := by
    have q : ∀ x : Fin 6, bits .or .u8 ((x.1 : Int) + 65) 32 = (x.1 : Int) + 65 + 32 := by decide
    have q2 := q ⟨(c - 65).toNat, by omega⟩
    rw [show (((⟨(c - 65).toNat, by omega⟩ : Fin 6).1 : Nat) : Int) + 65 = c by simp; omega] at q2
    exact q2
  go_enter Tryd.func115, Tryd.ntmps115
  go_wp2
  go_ret
  exact ⟨by first | rfl | (rw [e]), rfl⟩
set_option maxHeartbeats 2000000 in
theorem parseUint4 (s : ByteArray) (xs : List Nat) (w : World) (hs : s.data.toList = xs.map dgt) (hx : ∀ x ∈ xs, x < 16) (hl : xs.length = 4) :
    Calls Tryd.prog 102 #[.string s, .int .i64 16, .int .i64 32] w fun e w' => e = .returned (.tuple #[.int .u64 (hxN xs : Nat), .nilIface]) ∧ Below w.heap.size w w' := by
  have hsz : s.size = 4 := by rw [show s.size = s.data.toList.length by simp, hs, List.length_map, hl]
  have hie : s.toList.isEmpty = false := by cases hh : s.toList with
    | nil => have := (toListNil s).1 hh; omega
    | cons a l => rfl
  have hsz' : (s.size : Int) = 4 := by omega
  have HS := hid (And.intro hs (And.intro hx hl))
  clear hs hx hl hsz
  go_enter Tryd.func102, Tryd.ntmps102
  obtain ⟨vb, wb, hcv, hown, hbb⟩ := run_convM w s (by omega)
  have hce := fun g => OwnM.cells hown (g := g)
  obtain ⟨g, cap, cur, fz, rfl, _, hgg, _⟩ := hown
  have hlen : s.data.toList.length = 4 := by rw [HS.out.1, List.length_map]; exact HS.out.2.2
  rw [hlen] at hcv
  have HC := hid (show ∀ k x, xs[k]? = some x → wb.cell? ⟨g, k, none⟩ = some (.int .u8 ((dgt x).toNat : Int)) from fun k x hk => by
    have q := hce g rfl k (byteV (dgt x)) (by rw [HS.out.1]; simp [hk])
    rwa [Lib.add_plain, Nat.zero_add] at q)
  have hgl := (Array.getElem?_eq_some_iff.1 hgg).1
  clear hce hgg
  go_wp2_with fail
  go_loopw [12, 13, 101] (fun u n i wr => ∃ k : Nat, k ≤ 4 ∧ u = .bool false ∧ i = .int .i64 k ∧ n = .int .u64 (hxN (xs.take k) : Nat) ∧ wr = wb) (fun _ _ i _ => 4 - (intOf i).toNat)
  case atStart => exact ⟨0, by omega, rfl, rfl, rfl, rfl⟩
  case round =>
    obtain ⟨k, hk, rfl, rfl, rfl, rfl⟩ := hrel
    by_cases hk4 : k < 4
    · have hk4' : (k : Int) < 4 := by omega
      have hkl : k < xs.length := by have := HS.out.2.2; omega
      have hc := HC.out k xs[k] (List.getElem?_eq_getElem hkl)
      have hx16 := HS.out.2.1 xs[k] (List.getElem_mem hkl)
      have HT := hid (show hxN (xs.take (k + 1)) = 16 * hxN (xs.take k) + xs[k] by rw [List.take_succ_eq_append_getElem hkl, hxN_snoc])
      have HB := hxN_take xs k hk HS.out.2.1
      generalize xs[k] = x at *
      generalize hxN (xs.take k) = N at *
      have d1 : decide ((1152921504606846976 : Int) ≤ (N : Int)) = false := decide_eq_false (by omega)
      by_cases h10 : x < 10
      · have e : ((dgt x).toNat : Int) = 48 + (x : Int) := by unfold dgt; rw [if_pos h10, ofNat_toNat (by omega)]; omega
        rw [e] at hc
        have hx' : (x : Int) < 10 := by omega
        have w1 : IntKind.u64.wrap ((N : Int) * 16) = (N : Int) * 16 := by rw [IntKind.wrap_u64]; omega
        have w2 : IntKind.u64.wrap ((N : Int) * 16 + (48 + (x : Int) - 48)) = (N : Int) * 16 + x := by rw [IntKind.wrap_u64]; omega
        have d2 : decide ((N : Int) * 16 + (x : Int) < (N : Int) * 16) = false := decide_eq_false (by omega)
        have d3 : decide ((4294967295 : Int) < (N : Int) * 16 + (x : Int)) = false := decide_eq_false (by omega)
        clear HB hx16 h10 e
        go_wp2_with fail
        go_roundw
        case rel => exact ⟨k + 1, by omega, rfl, by go_num, by rw [HT.out]; congr 1; push_cast; omega, by first | rfl | trivial⟩
        case measure => simp [intOf]; omega
      · obtain ⟨y, rfl⟩ : ∃ y, x = 10 + y := ⟨x - 10, by omega⟩
        have e : ((dgt (10 + y)).toNat : Int) = 65 + (y : Int) := by unfold dgt; rw [if_neg h10, ofNat_toNat (by omega)]; omega
        rw [e] at hc
        have hy' : (y : Int) < 6 := by omega
        have HLW := hid (fun W => lower_hex (c := 65 + (y : Int)) (by omega) (by omega) W)
        have w1 : IntKind.u64.wrap ((N : Int) * 16) = (N : Int) * 16 := by rw [IntKind.wrap_u64]; omega
        have w2 : IntKind.u64.wrap ((N : Int) * 16 + (65 + (y : Int) + 32 - 97 + 10)) = (N : Int) * 16 + (10 + y) := by rw [IntKind.wrap_u64]; omega
        have d2 : decide ((N : Int) * 16 + (10 + (y : Int)) < (N : Int) * 16) = false := decide_eq_false (by omega)
        have d3 : decide ((4294967295 : Int) < (N : Int) * 16 + (10 + (y : Int))) = false := decide_eq_false (by omega)
        clear HB hx16 h10 e
        go_wp2_with (go_at_call 115; refine (HLW.out _).mono ?_; rintro e w9 ⟨rfl, rfl⟩)
        go_roundw
        case rel => exact ⟨k + 1, by omega, rfl, by go_num, by rw [HT.out]; congr 1; push_cast; omega, by first | rfl | trivial⟩
        case measure => simp [intOf]; omega
    · obtain rfl : k = 4 := by omega
      go_wp2_with fail
      go_ret2
      refine ⟨?_, hbb⟩
      have e : xs.take 4 = xs := List.take_of_length_le (by rw [HS.out.2.2]; omega)
      rw [e]; rfl
end Go.Proofs.YtggojafapieliabDoor
