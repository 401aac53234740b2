/-
  Parts of a row are exchanged, and turned round each other (slices.swapRangeCmpFunc, slices.rotateCmpFunc).
-/
import Derived.Test.YtogdfjkbkhnobaaSa
import Derived.Test.YtogdfjkbkhnobaaFa
import Derived.Shelf.SlSortCmp.Kit1
import Derived.Sort.WalkA
import Derived.Sort.WalkB2
import Derived.Sort.WalkB12
import Derived.Deep.LoopGhost
import Derived.BigRegion
namespace Go.Proofs.Ytogdfjkbkhnobaa
open Go.Shelf Go.RowKit Go.Lib Go.Sort
set_option maxRecDepth 1000000

abbrev enI (z : Int) : Value := .int .i64 z
/-- A row of numbers, as a function of a place. -/
def toF (d : Array Int) : Nat → Int := fun k => d[k]!
theorem toF_swp (d : Array Int) (i j : Nat) (hi : i < d.size) (hj : j < d.size) : toF (Go.Sort.swp d i j) = swp (toF d) i j := by
  funext k
  unfold toF Go.Proofs.Ytogdfjkbkhnobaa.swp Go.Sort.swp
  by_cases h2 : k = j
  · subst h2
    rw [getElem!_set_same _ _ _ (by simpa using hj)]
    by_cases h1 : k = i
    · subst h1; simp
    · rw [if_neg h1, if_pos rfl]
  · rw [getElem!_set_other _ _ _ _ h2]
    by_cases h1 : k = i
    · subst h1
      rw [getElem!_set_same _ _ _ hi, if_pos rfl]
    · rw [getElem!_set_other _ _ _ _ h1, if_neg h1, if_neg h2]
theorem mixed : Try.prog.follows .mixedOrders = true := by kernel_rfl
/-- A row of the sort's, so ordered. -/
def Put (w0 : World) (blk off n : Nat) (f : Nat → Int) (w : World) : Prop := ∃ d : Array Int, d.size = n ∧ toF d = f ∧ SW enI w0 blk off d w

set_option maxHeartbeats 16000000 in
theorem swapRange_says {w0 : World} {blk off : Nat} {d0 : Array Int} (R : Row1 enI w0 blk off d0) (cap a b n : Nat) (f : Nat → Int) (F : Value) (w : World) (S : Put w0 blk off d0.size f w) (h1 : a + n ≤ b) (h2 : b + n ≤ d0.size) (hsz : d0.size < 1000000) :
    Calls Try.prog 33 #[.slice (some ⟨blk, off, none⟩) d0.size cap, .int .i64 a, .int .i64 b, .int .i64 n, F] w fun e w' => e = .returned (.tuple #[]) ∧ Put w0 blk off d0.size (swR f a b n) w' := by
  have S0 := hid S
  clear S
  go_enter Try.func33, Try.ntmps33
  go_wp2_with fail
  go_loopg [10] n (fun g1 vi wr => ∃ (i : Nat), vi = .int .i64 i ∧ i ≤ n ∧ n - i ≤ g1 ∧ Hid (Put w0 blk off d0.size (swR f a b i) wr))
  case atStart => exact ⟨0, rfl, Nat.zero_le _, by omega, hid (by rw [swR_zero]; exact S0.out)⟩
  case round =>
    clear S0
    obtain ⟨i, rfl, hin, hg1, S1⟩ := hrel
    by_cases hlt : i < n
    · have hltz : (i : Int) < (n : Int) := by omega
      obtain ⟨d, hd, hf, SW1⟩ := S1.out
      have hds : d.size = d0.size := hd
      obtain ⟨iN, hiN⟩ : ∃ q, q = a + i := ⟨_, rfl⟩
      obtain ⟨jN, hjN⟩ : ∃ q, q = b + i := ⟨_, rfl⟩
      have ea : ((a : Int) + i).toNat = iN := by omega
      have pa : (0 : Int) ≤ (a : Int) + i := by omega
      have ba : (a : Int) + i < (d0.size : Int) := by omega
      have ra : IntKind.i64.wrap ((a : Int) + i) = (a : Int) + i := by rw [IntKind.wrap_i64]; omega
      have ec : ((b : Int) + i).toNat = jN := by omega
      have pc : (0 : Int) ≤ (b : Int) + i := by omega
      have bc : (b : Int) + i < (d0.size : Int) := by omega
      have rc : IntKind.i64.wrap ((b : Int) + i) = (b : Int) + i := by rw [IntKind.wrap_i64]; omega
      obtain ⟨x, hx⟩ : ∃ x, x = d[iN]! := ⟨_, rfl⟩
      obtain ⟨y, hy⟩ : ∃ x, x = d[jN]! := ⟨_, rfl⟩
      have S3 := hid (show Put w0 blk off d0.size (swR f a b (i + 1)) ((wr.setCell ⟨blk, off + iN, none⟩ (enI y)).setCell ⟨blk, off + jN, none⟩ (enI x)).drew from
        ⟨Go.Sort.swp d iN jN, by rw [size_swp]; exact hds, by rw [toF_swp d iN jN (by omega) (by omega), hf, hiN, hjN]; exact swR_succ f a b i (by omega), by rw [hx, hy]; exact SW1.swapped R iN jN (by omega) (by omega)⟩)
      have c1 := SW1.c1 R hds iN (by omega)
      have c2 := SW1.c1 R hds jN (by omega)
      have f1 := SW1.f1 R hds iN (by omega)
      have f2 := SW1.f1 R hds jN (by omega)
      obtain ⟨u, c3⟩ := SW1.c2 R hds iN jN (by omega) (by omega) (enI y)
      rw [← hx] at c1
      rw [← hy] at c2
      clear SW1 hx hy hiN hjN hf
      go_wp2_with fail
      go_region
      clear c1 c2 c3 f1 f2
      generalize ((wr.setCell ⟨blk, off + iN, none⟩ (enI y)).setCell ⟨blk, off + jN, none⟩ (enI x)).drew = w3 at S3 ⊢
      go_wp2_with fail
      go_roundg (n - (i + 1))
      case measure => omega
      case rel => exact ⟨i + 1, by go_num, by omega, Nat.le_refl _, S3⟩
    · have hltz : ¬ (i : Int) < (n : Int) := by omega
      have e : i = n := by omega
      subst e
      go_wp2_with fail
      go_end0
      exact ⟨rfl, S1.out⟩

set_option maxHeartbeats 16000000 in
theorem rotate_says {w0 : World} {blk off : Nat} {d0 : Array Int} (R : Row1 enI w0 blk off d0) (cap a m b : Nat) (f : Nat → Int) (F : Value) (w : World) (S : Put w0 blk off d0.size f w) (h1 : a < m) (h2 : m < b) (h3 : b ≤ d0.size) (hsz : d0.size < 1000000) :
    Calls Try.prog 32 #[.slice (some ⟨blk, off, none⟩) d0.size cap, .int .i64 a, .int .i64 m, .int .i64 b, F] w fun e w' => e = .returned (.tuple #[]) ∧ Put w0 blk off d0.size (rot f a m b) w' := by
  have S0 := hid S
  clear S
  go_enter Try.func32, Try.ntmps32
  have i1 : IntKind.i64.wrap ((m : Int) - a) = ((m - a : Nat) : Int) := by rw [IntKind.wrap_i64]; omega
  have i2 : IntKind.i64.wrap ((b : Int) - m) = ((b - m : Nat) : Int) := by rw [IntKind.wrap_i64]; omega
  go_wp2_with fail
  go_loopg [10, 11] (m + b) (fun g1 vi vj wr => ∃ (i j : Nat) (g : Nat → Int), vi = .int .i64 i ∧ vj = .int .i64 j ∧ 0 < i ∧ i ≤ m ∧ 0 < j ∧ m + j ≤ b ∧ i + j ≤ g1 ∧ Hid (Put w0 blk off d0.size g wr) ∧ Hid (rot g (m - i) m (m + j) = rot f a m b))
  case atStart => exact ⟨m - a, b - m, f, rfl, rfl, by omega, by omega, by omega, by omega, by omega, S0, hid (by congr 1 <;> omega)⟩
  case round =>
    clear S0 i1 i2
    obtain ⟨i, j, g, rfl, rfl, hi, him, hj, hjb, hg1, S1, E⟩ := hrel
    have j1 : IntKind.i64.wrap ((m : Int) - i) = ((m - i : Nat) : Int) := by rw [IntKind.wrap_i64]; omega
    by_cases hij : i = j
    · subst hij
      go_wp2_with (go_at_call 33; refine (swapRange_says R cap (m - i) m i g F _ S1.out (by omega) (by omega) hsz).mono ?_; rintro e w1 ⟨rfl, h⟩; have S2 := hid h; clear h)
      go_end0
      exact ⟨rfl, by rw [← E.out, ← rot_end g m i him]; exact S2.out⟩
    · have hijz : ¬ (i : Int) = (j : Int) := by omega
      have hijb : ((i : Int) != (j : Int)) = true := by simpa using hijz
      by_cases hlt : j < i
      · have hltz : (j : Int) < (i : Int) := by omega
        have j2 : IntKind.i64.wrap ((i : Int) - j) = ((i - j : Nat) : Int) := by rw [IntKind.wrap_i64]; omega
        go_wp2_with (go_at_call 33; refine (swapRange_says R cap (m - i) m j g F _ S1.out (by omega) (by omega) hsz).mono ?_; rintro e w1 ⟨rfl, h⟩; have S2 := hid h; clear h)
        go_roundg (i - j + j)
        case measure => omega
        case rel => exact ⟨i - j, j, _, rfl, rfl, by omega, by omega, hj, hjb, by omega, S2, hid (by rw [rot_gt g m i j him hlt]; exact E.out)⟩
      · have hltz : ¬ (j : Int) < (i : Int) := by omega
        have j2 : IntKind.i64.wrap ((j : Int) - i) = ((j - i : Nat) : Int) := by rw [IntKind.wrap_i64]; omega
        have j5 : (m : Int) + j - i = ((m + j - i : Nat) : Int) := by omega
        go_wp2_with (go_at_call 33; refine (swapRange_says R cap (m - i) (m + j - i) i g F _ S1.out (by omega) (by omega) hsz).mono ?_; rintro e w1 ⟨rfl, h⟩; have S2 := hid h; clear h)
        go_roundg (i + (j - i))
        case measure => omega
        case rel => exact ⟨i, j - i, _, rfl, rfl, hi, him, by omega, by omega, by omega, S2, hid (by rw [rot_lt g m i j him (by omega)]; exact E.out)⟩
end Go.Proofs.Ytogdfjkbkhnobaa
