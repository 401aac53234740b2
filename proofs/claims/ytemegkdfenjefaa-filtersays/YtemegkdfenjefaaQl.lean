/-
  Filters of the program: digits to the base 85 that are left at the end.
-/
import Derived.Test.YtemegkdfenjefaaQk
import Derived.OneCell
namespace Go.Proofs.Ytemegkdfenjefaa
open Go.RowKit
set_option maxRecDepth 100000

def fil (ds : Nat → Nat) (h k : Nat) : Nat → Nat := fun i => if h ≤ i ∧ i < k then 84 else ds i
theorem fil_step (ds : Nat → Nat) (h k : Nat) (hk : h ≤ k) : upd (fil ds h k) k 84 = fil ds h (k + 1) := by
  funext i
  unfold upd fil
  by_cases e : i = k
  · rw [if_pos e, if_pos (by omega)]
  · rw [if_neg e]
    by_cases q : h ≤ i ∧ i < k
    · rw [if_pos q, if_pos (by omega)]
    · rw [if_neg q, if_neg (by omega)]
theorem fil_none (ds : Nat → Nat) (h : Nat) : fil ds h h = ds := by
  funext i; unfold fil; rw [if_neg (by omega)]
theorem fil_end (ds : Nat → Nat) (h : Nat) (hh : h ≤ 4) : digs (fil ds h 5) 5 = digs ds h ++ List.replicate (5 - h) 84 := by
  rcases (by omega : h = 0 ∨ h = 1 ∨ h = 2 ∨ h = 3 ∨ h = 4) with rfl | rfl | rfl | rfl | rfl <;> rfl
theorem fil_lt (ds : Nat → Nat) (h k : Nat) (hd : ∀ i, i < 5 → ds i < 85) : ∀ i, i < 5 → fil ds h k i < 85 := by
  intro i hi; unfold fil; split
  · omega
  · exact hd i hi
theorem fiveEnd_0 (ds : Nat → Nat) (b : List UInt8) : fiveEnd (digs ds 0) b = (0, b) := rfl
theorem fiveEnd_1 (ds : Nat → Nat) (b : List UInt8) : fiveEnd (digs ds 1) b = (4, []) := rfl
theorem fiveEnd_more (ds : Nat → Nat) (h : Nat) (h2 : 2 ≤ h) (b : List UInt8) : fiveEnd (digs ds h) b = readR (val85 (digs ds h ++ List.replicate (5 - h) 84)) (h - 1) b := by
  unfold fiveEnd readR
  rw [digs_len, if_neg (by omega), if_neg (by omega)]
theorem Own8.other {w : World} {B : Nat} {v : Value} {xs : List UInt8} (h : Own8 w B v xs) {b : Nat} {t : TypeId} {cs : Array Value} (hA : At w b t cs) (ht : t ≠ 5) (o : Nat) (u : Value) : Own8 (w.setCell ⟨b, o, none⟩ u) B v xs := by
  refine ownsRow_setCell_other h (fun e => ?_) u
  obtain ⟨c, fz, hc⟩ := own8_kind h b e
  have h2 := hA.symm.trans hc
  cases h2
  exact ht rfl
theorem Kept8.setNew {B : Nat} {a w : World} (h : Kept8 B a w) {b : Nat} (hb : a.heap.size ≤ b) (hB : B ≤ b) (o : Nat) (u : Value) : Kept8 B a (w.setCell ⟨b, o, none⟩ u) := by
  refine ⟨h.below.setCell (p := ⟨b, o, none⟩) hB u, fun k x hk hn hx => ?_⟩
  have h1 := h.others k x hk hn hx
  have hlt : k < a.heap.size := (Array.getElem?_eq_some_iff.1 hk).1
  rw [Below.heap_setCell _ _ _ _ (fun e => by
    have e' : b = k := by first | exact e | exact e.symm
    omega)]
  exact h1
theorem pReadN (ds : Nat → Nat) (m : Nat) (mi : Int) (B : Nat) (sv : Value) (xs : List UInt8) (w : World) (hmi : mi = m) (hd : ∀ i, i < 5 → ds i < 85) (hm : m ≤ 4) (hown : Own8 w B sv xs) (hB : B ≤ w.heap.size) (hl : xs.length ≤ 100000000) :
    Calls Try.prog 37 #[sv, .agg #[.int .u8 (ds 0 : Nat), .int .u8 (ds 1 : Nat), .int .u8 (ds 2 : Nat), .int .u8 (ds 3 : Nat), .int .u8 (ds 4 : Nat)], .int .i64 mi] w fun e w' => ∃ v' : Value, e = .returned (.tuple #[v', errN (readR (val85 (digs ds 5)) m xs).1]) ∧ Own8 w' B v' (readR (val85 (digs ds 5)) m xs).2 ∧ Kept8 B w w' := by
  subst hmi; exact pRead ds m B sv xs w hd hm hown hB hl
set_option maxHeartbeats 1000000 in
theorem pRest (ds : Nat → Nat) (h : Nat) (B : Nat) (sv : Value) (xs : List UInt8) (w : World) (hd : ∀ i, i < 5 → ds i < 85) (hh : h ≤ 4) (hown : Own8 w B sv xs) (hB : B ≤ w.heap.size) (hl : xs.length ≤ 100000000) :
    Calls Try.prog 36 #[sv, .agg (gcells ds), .int .i64 h] w fun e w' => ∃ v' : Value, e = .returned (.tuple #[v', errN (fiveEnd (digs ds h) xs).1]) ∧ Own8 w' B v' (fiveEnd (digs ds h) xs).2 ∧ Kept8 B w w' := by
  by_cases h0 : h = 0
  · subst h0
    rw [fiveEnd_0]
    go_enter Try.func36, Try.ntmps36
    go_wp2
    go_ret2
    exact ⟨_, rfl, hown.alloc _, (Kept8.refl _ _).alloc hB _⟩
  by_cases h1 : h = 1
  · subst h1
    rw [fiveEnd_1]
    go_enter Try.func36, Try.ntmps36
    go_wp2
    go_ret2
    exact ⟨_, rfl, Own8.nil _ _, (Kept8.refl _ _).alloc hB _⟩
  have HE := hid (fiveEnd_more ds h (by omega) xs)
  have HFE := hid (fil_end ds h hh)
  have HDD := hid (fil_lt ds h 5 hd)
  have HW := hid (show At (w.alloc (.cells (gcells ds) 53)) w.heap.size 53 (gcells (fil ds h h)) by rw [fil_none]; exact At.new _ _ _ rfl)
  generalize fiveEnd (digs ds h) xs = R at *
  have b0 : ((h : Int) == 0) = false := by simpa using h0
  have b1 : ((h : Int) == 1) = false := by simpa using (show ¬ (h : Int) = 1 by omega)
  clear hd
  go_enter Try.func36, Try.ntmps36
  go_wp2
  go_loopw [8] (fun i wr => ∃ k : Nat, i = .int .i64 k ∧ h ≤ k ∧ k ≤ 5 ∧ At wr w.heap.size 53 (gcells (fil ds h k)) ∧ Own8 wr B sv xs ∧ Kept8 B w wr) (fun i _ => 5 - (intOf i).toNat)
  case atStart => exact ⟨h, rfl, Nat.le_refl _, by omega, HW.out, hown.alloc _, (Kept8.refl _ _).alloc hB _⟩
  case round =>
    clear hown HW
    obtain ⟨k, rfl, hk1, hk2, hA, hown, hb⟩ := hrel
    have hbs := hb.size
    by_cases hlt : (k : Int) < 5
    · have hc := (hA.cell k).trans (gcells_get _ k (by omega))
      have hf := hA.free k
      have HS := hid (gcells_set (fil ds h k) k 84 (by omega) wr w.heap.size _ hA)
      rw [fil_step ds h k hk1] at HS
      generalize ((fil ds h k k : Nat) : Int) = old at *
      go_wp2
      go_roundw
      case rel =>
        refine ⟨k + 1, by go_num, by omega, by omega, HS.out, ?_, ?_⟩
        · exact hown.other hA (by decide) _ _
        · exact hb.setNew (Nat.le_refl _) hB _ _
      case measure => simp [intOf]; omega
    · obtain rfl : k = 5 := by omega
      have c0 := (hA.cell 0).trans (gcells_get _ 0 (by omega))
      have c1 := (hA.cell 1).trans (gcells_get _ 1 (by omega))
      have c2 := (hA.cell 2).trans (gcells_get _ 2 (by omega))
      have c3 := (hA.cell 3).trans (gcells_get _ 3 (by omega))
      have c4 := (hA.cell 4).trans (gcells_get _ 4 (by omega))
      go_wp2_with (go_at_call 37; go_must (refine (pReadN (fil ds h 5) (h - 1) _ B _ xs _ (by omega) HDD.out (by omega) hown (by omega) hl).mono ?_); rintro e w2 ⟨v2, rfl, hown2, hk2⟩)
      go_ret2
      rw [HE.out, ← HFE.out]
      exact ⟨_, rfl, hown2, hb.trans hk2⟩
end Go.Proofs.Ytemegkdfenjefaa
