/-
  Filters of the document's answer: what is made.
-/
import Derived.Test.YtemegkdfenjefaaQo
namespace Go.Proofs.Ytemegkdfenjefaa
open Go.RowKit
set_option maxRecDepth 100000

set_option maxHeartbeats 1000000 in
theorem rMadeHex (s : ByteArray) (w : World) (hs : s.size ≤ 100000) :
    Calls Try.prog 15 #[.string ⟨#[65, 83, 67, 73, 73, 72, 101, 120, 68, 101, 99, 111, 100, 101]⟩, .string s] w fun e w' => e = .returned (.string ⟨(hexMk s.data.toList).toArray⟩) ∧ Below w.heap.size w w' := by
  go_enter Try.func15, Try.ntmps15
  go_wp2
  go_loopw [5, 6] (fun t i wr => ∃ k : Nat, i = .int .i64 k ∧ k ≤ s.size ∧ Own8 wr w.heap.size t ((s.data.toList.take k).flatMap hexB) ∧ Below w.heap.size w wr) (fun _ i _ => s.size - (intOf i).toNat)
  case atStart => exact ⟨0, rfl, Nat.zero_le _, by simpa using Own8.nil _ _, Below.refl _ _⟩
  case round =>
    obtain ⟨k, rfl, hk, hown, hb⟩ := hrel
    have hbs := hb.size
    have hfl2 : ((s.data.toList.take k).flatMap hexB).length ≤ 400000 := by
      have hfl := flatH_len (s.data.toList.take k)
      have : (s.data.toList.take k).length ≤ s.size := by simp; omega
      omega
    generalize hpre : (s.data.toList.take k).flatMap hexB = pre at *
    have HPR := hid hpre
    clear hpre
    by_cases hlt : k < s.size
    · have HT := hid (take_snoc s k hlt)
      have hc256 := s[k].toNat_lt
      have ex : ∃ a b : Nat, (s[k].toNat : Int) / 16 = a ∧ (s[k].toNat : Int) % 16 = b ∧ a < 16 ∧ b < 16 ∧ s[k].toNat / 16 = a ∧ s[k].toNat % 16 = b := ⟨s[k].toNat / 16, s[k].toNat % 16, by omega, by omega, by omega, by omega, rfl, rfl⟩
      obtain ⟨a, b, ea, eb, la, lb, na, nb⟩ := ex
      have HAB := hid (And.intro na nb)
      clear na nb
      have la' : (a : Int) < 16 := by omega
      have lb' : (b : Int) < 16 := by omega
      have hwa : IntKind.u8.wrap (a : Int) = a := IntWalk.u8_in _ (by omega)
      have htm : ((s[k].toNat : Int)).tmod 16 = b := by rw [tm_nonneg (by omega)]; exact eb
      have HE := hid (show hexB s[k] = [hexD a, hexD b] by unfold hexB; rw [HAB.out.1, HAB.out.2])
      go_wp2_with fail
      go_region_law ((refine stepApp8g (by rfl) (.tmp 25) (.tmp 36) (by rfl) w.heap.size _ pre (by rfl) (by exact hown.alloc _) wr.heap.size [hexD a, hexD b] 2 2 (by rfl) (0, 0) (by rfl) _ (by rw [← hexD_tbl a la, ← hexD_tbl b lb]) (by exact heap_alloc_new _ _) (by simp; omega) (by simp; omega) ?_; intro v2 w2 hown2 hk2))
      all_goals
        have hb2 := hb.trans (hk2.undrew.unalloc.kept hown hbs).below
        clear hown hk2 hb
        go_wp2
        go_roundw
        case rel =>
          refine ⟨k + 1, by go_num, by omega, ?_, hb2⟩
          rw [HT.out, List.flatMap_append, HPR.out, List.flatMap_singleton, HE.out]
          simpa using hown2
        case measure => simp [intOf]; omega
    · have hke : k = s.size := by omega
      have HPE := hid (show hexMk s.data.toList = pre ++ [62] by have := HPR.out; rw [hke, List.take_of_length_le (by simp)] at this; unfold hexMk; rw [this])
      go_wp2_with (at_builtin; refine wpApp8 rfl (.tmp 38) (.tmp 39) rfl w.heap.size _ pre rfl hown _ [62] 1 1 rfl rfl rfl (by omega) hbs ?_)
      intro v1 w1 hown1 hk1
      have hcv := own8_conv hown1
      go_wp2
      go_ret
      exact ⟨by rw [HPE.out]; rfl, hb.trans hk1.below⟩

/-- Four bytes from a place on, by their number; what a place far behind is. -/
def num4At (l : List UInt8) (i : Nat) : Nat := num4 (l.drop i)
def pnAt (s : ByteArray) (i j : Nat) : Nat := pn (s.data.toList.drop i) j
theorem fiveMk_at (s : ByteArray) (i : Nat) (h : i + 4 ≤ s.size) : fiveMk (s.data.toList.drop i) = five4 (num4 (s.data.toList.drop i)) ++ fiveMk (s.data.toList.drop (i + 4)) := by
  obtain ⟨a, b, c, d, r, hl⟩ := four_of (l := s.data.toList.drop i) (by simp; omega)
  have hr : s.data.toList.drop (i + 4) = r := by rw [← List.drop_drop, hl]; rfl
  rw [hr, hl]; rfl
theorem fiveMk_last (s : ByteArray) (i : Nat) (h : i < s.size) (h4 : s.size < i + 4) : fiveMk (s.data.toList.drop i) = sgn5 (num4 (s.data.toList.drop i)) (s.size - i + 1) ++ [126, 62] := by
  have hl : (s.data.toList.drop i).length = s.size - i := by simp
  rw [three_of (by omega) (fun e => by rw [e] at hl; simp at hl; omega), hl]
theorem pnAt_in (s : ByteArray) (i j : Nat) (h : i + j < s.size) : pnAt s i (j + 1) = 256 * pnAt s i j + s[i + j].toNat := by
  unfold pnAt
  rw [pn]
  congr 2
  rw [List.getD_eq_getElem?_getD, List.getElem?_drop, List.getElem?_eq_getElem (by simpa using h)]; rfl
theorem pnAt_out (s : ByteArray) (i j : Nat) (h : s.size ≤ i + j) : pnAt s i (j + 1) = 256 * pnAt s i j := by
  unfold pnAt
  rw [pn, List.getD_eq_getElem?_getD, List.getElem?_eq_none (by simp; omega)]; rfl
def worth5 (j : Nat) : Nat := if j = 0 then 52200625 else if j = 1 then 614125 else if j = 2 then 7225 else if j = 3 then 85 else if j = 4 then 1 else 0
theorem worth5_step (j : Nat) (h : j < 5) : worth5 j / 85 = worth5 (j + 1) := by
  rcases (by omega : j = 0 ∨ j = 1 ∨ j = 2 ∨ j = 3 ∨ j = 4) with rfl | rfl | rfl | rfl | rfl <;> rfl
theorem worth5_dig (n j : Nat) (h : j < 5) : n / worth5 j % 85 = dig5 n j := by
  rcases (by omega : j = 0 ∨ j = 1 ∨ j = 2 ∨ j = 3 ∨ j = 4) with rfl | rfl | rfl | rfl | rfl <;> rfl
theorem worth5_pos (j : Nat) (h : j < 5) : 0 < worth5 j ∧ worth5 j ≤ 52200625 := by
  rcases (by omega : j = 0 ∨ j = 1 ∨ j = 2 ∨ j = 3 ∨ j = 4) with rfl | rfl | rfl | rfl | rfl <;> decide
end Go.Proofs.Ytemegkdfenjefaa
