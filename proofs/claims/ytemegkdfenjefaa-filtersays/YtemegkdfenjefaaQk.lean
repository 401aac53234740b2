/-
  Filters of the program: a group of digits to the base 85 is read.
-/
import Derived.Test.YtemegkdfenjefaaQj
namespace Go.Proofs.Ytemegkdfenjefaa
open Go.RowKit
set_option maxRecDepth 100000

/-- Five digits in memory. -/
def gcells (ds : Nat → Nat) : Array Value := #[.int .u8 (ds 0 : Nat), .int .u8 (ds 1 : Nat), .int .u8 (ds 2 : Nat), .int .u8 (ds 3 : Nat), .int .u8 (ds 4 : Nat)]
def upd (ds : Nat → Nat) (j v : Nat) : Nat → Nat := fun i => if i = j then v else ds i
def digs (ds : Nat → Nat) (h : Nat) : List Nat := (List.range h).map ds
theorem gcells_get (ds : Nat → Nat) (j : Nat) (h : j < 5) : (gcells ds)[j]? = some (.int .u8 (ds j : Nat)) := by
  rcases (by omega : j = 0 ∨ j = 1 ∨ j = 2 ∨ j = 3 ∨ j = 4) with rfl | rfl | rfl | rfl | rfl <;> rfl
theorem gcells_set (ds : Nat → Nat) (j v : Nat) (hj : j < 5) (w : World) (b : Nat) (t : TypeId) (h : At w b t (gcells ds)) : At (w.setCell ⟨b, j, none⟩ (.int .u8 (v : Nat))) b t (gcells (upd ds j v)) := by
  have q := heap_setCell_same w b j _ t (.int .u8 (v : Nat)) h
  rcases (by omega : j = 0 ∨ j = 1 ∨ j = 2 ∨ j = 3 ∨ j = 4) with rfl | rfl | rfl | rfl | rfl <;> exact q
theorem digs_len (ds : Nat → Nat) (h : Nat) : (digs ds h).length = h := by simp [digs]
theorem digs_succ (ds : Nat → Nat) (h : Nat) : digs ds (h + 1) = digs ds h ++ [ds h] := by
  unfold digs; rw [List.range_succ, List.map_append]; rfl
theorem digs_upd (ds : Nat → Nat) (j v h : Nat) (hh : h ≤ j) : digs (upd ds j v) h = digs ds h := by
  unfold digs; apply List.map_congr_left
  intro x hx
  have := List.mem_range.1 hx
  unfold upd; rw [if_neg (by omega)]
theorem val_lt (ds : Nat → Nat) (hd : ∀ i, i < 5 → ds i < 85) : ∀ k, k ≤ 5 → val85 (digs ds k) < 85 ^ k
  | 0, _ => by simp [digs, val85]
  | k + 1, h => by
    have := val_lt ds hd k (by omega)
    have := hd k (by omega)
    rw [digs_succ, val85_snoc, Nat.pow_succ]; omega
theorem val_bd (ds : Nat → Nat) (hd : ∀ i, i < 5 → ds i < 85) (k : Nat) (h : k ≤ 5) : val85 (digs ds k) < 4437053125 :=
  Nat.lt_of_lt_of_le (val_lt ds hd k h) (Nat.le_trans (Nat.pow_le_pow_right (by omega) h) (by decide))
theorem byte4_len (n : Nat) : (byte4 n).length = 4 := rfl
theorem byte4_step (n k : Nat) (hk : k < 4) : (byte4 n).take (k + 1) = (byte4 n).take k ++ [(byte4 n).getD k 0] := by
  rcases (by omega : k = 0 ∨ k = 1 ∨ k = 2 ∨ k = 3) with rfl | rfl | rfl | rfl <;> rfl
structure Small32 (v : Nat) : Prop where
  lt : (v : Int) < 4294967296
def readR (v m : Nat) (xs : List UInt8) : Int × List UInt8 := if v < 4294967296 then (0, xs ++ (byte4 v).take m) else (4, [])
theorem readR_ok {v m : Nat} {xs : List UInt8} (h : (v : Int) < 4294967296) : readR v m xs = (0, xs ++ (byte4 v).take m) := by unfold readR; rw [if_pos (by omega)]
theorem readR_bad {v m : Nat} {xs : List UInt8} (h : (4294967296 : Int) ≤ v) : readR v m xs = (4, []) := by unfold readR; rw [if_neg (by omega)]
theorem byte4_at (v : Nat) (h : (v : Int) < 4294967296) : (((byte4 v).getD 0 0).toNat : Int) = (v : Int) / 16777216 ∧ (((byte4 v).getD 1 0).toNat : Int) = (v : Int) / 65536 % 256 ∧ (((byte4 v).getD 2 0).toNat : Int) = (v : Int) / 256 % 256 ∧ (((byte4 v).getD 3 0).toNat : Int) = (v : Int) % 256 := by
  refine ⟨?_, ?_, ?_, ?_⟩
  · show ((UInt8.ofNat (v / 16777216)).toNat : Int) = _; simp only [UInt8.toNat_ofNat']; omega
  · show ((UInt8.ofNat (v / 65536 % 256)).toNat : Int) = _; simp only [UInt8.toNat_ofNat']; omega
  · show ((UInt8.ofNat (v / 256 % 256)).toNat : Int) = _; simp only [UInt8.toNat_ofNat']; omega
  · show ((UInt8.ofNat (v % 256)).toNat : Int) = _; simp only [UInt8.toNat_ofNat']; omega
set_option maxHeartbeats 1000000 in
theorem pRead (ds : Nat → Nat) (m : Nat) (B : Nat) (sv : Value) (xs : List UInt8) (w : World) (hd : ∀ i, i < 5 → ds i < 85) (hm : m ≤ 4) (hown : Own8 w B sv xs) (hB : B ≤ w.heap.size) (hl : xs.length ≤ 100000000) :
    Calls Try.prog 37 #[sv, .agg (gcells ds), .int .i64 m] w fun e w' => ∃ v' : Value, e = .returned (.tuple #[v', errN (readR (val85 (digs ds 5)) m xs).1]) ∧ Own8 w' B v' (readR (val85 (digs ds 5)) m xs).2 ∧ Kept8 B w w' := by
  have HW := hid (show At (w.alloc (.cells (gcells ds) 53)) w.heap.size 53 (gcells ds) from At.new _ _ _ rfl)
  have HD := hid (gcells_get ds)
  have HDD := hid hd
  have HB := hid (val_bd ds hd)
  clear hd
  have HSU := hid (digs_succ ds)
  unfold gcells at HW HD ⊢
  generalize Value.int .u8 (ds 0 : Nat) = d0 at *
  generalize Value.int .u8 (ds 1 : Nat) = d1 at *
  generalize Value.int .u8 (ds 2 : Nat) = d2 at *
  generalize Value.int .u8 (ds 3 : Nat) = d3 at *
  generalize Value.int .u8 (ds 4 : Nat) = d4 at *
  go_enter Try.func37, Try.ntmps37
  go_wp2
  go_loop [8, 11] (fun n i => ∃ k : Nat, k ≤ 5 ∧ i = .int .i64 k ∧ n = .int .u64 (val85 (digs ds k) : Nat)) (fun _ i => 5 - (intOf i).toNat)
  case atStart => exact ⟨0, by omega, rfl, rfl⟩
  case round =>
    obtain ⟨k, hk, rfl, rfl⟩ := hrel
    have hvb : ((val85 (digs ds k) : Nat) : Int) < 4437053125 := by have := HB.out k hk; omega
    by_cases hlt : (k : Int) < 5
    · have hc := (HW.out.cell k).trans (HD.out k (by omega))
      have hdk := HDD.out k (by omega)
      have HV := hid (show val85 (digs ds (k + 1)) = 85 * val85 (digs ds k) + ds k by rw [HSU.out, val85_snoc])
      generalize val85 (digs ds k) = v at *
      generalize ds k = d at *
      go_wp2
      go_round
      case rel => exact ⟨k + 1, by omega, by go_num, by rw [HV.out]; exact congrArg (Value.int .u64) (by omega)⟩
      case measure => simp [intOf]; omega
    · obtain rfl : k = 5 := by omega
      generalize hv : val85 (digs ds 5) = v at *
      have HV := hid hv
      clear hv
      by_cases h32 : (4294967296 : Int) ≤ v
      · have HQ := hid (readR_bad (m := m) (xs := xs) h32)
        go_wp2
        go_ret2
        rw [HV.out, HQ.out]
        exact ⟨_, rfl, Own8.nil _ _, (Kept8.refl _ _).alloc hB _⟩
      · have h32' : (v : Int) < 4294967296 := by omega
        have HQ := hid (readR_ok (m := m) (xs := xs) h32')
        have HSM : Small32 v := ⟨h32'⟩
        go_wp2
        go_loopw [0, 26] (fun t i wr => ∃ j : Nat, i = .int .i64 j ∧ j ≤ m ∧ Own8 wr B t (xs ++ (byte4 v).take j) ∧ Kept8 B w wr) (fun _ i _ => m - (intOf i).toNat)
        case atStart => exact ⟨0, rfl, Nat.zero_le _, by simpa using hown.alloc _, (Kept8.refl _ _).alloc hB _⟩
        case round =>
          clear hown h32' h32 hvb
          obtain ⟨j, rfl, hj, hown, hb⟩ := hrel
          have hbs := hb.size
          by_cases hjm : (j : Int) < m
          · have HS := hid (byte4_step v j (by omega))
            have HL := hid (show (List.take j (byte4 v)).length ≤ 4 by rw [List.length_take, byte4_len]; omega)
            generalize hpr : xs ++ List.take j (byte4 v) = pr at *
            have HPR := hid hpr
            have hprl : pr.length ≤ 200000000 := by rw [← hpr, List.length_append]; have := HL.out; omega
            clear hpr
            rcases (by omega : j = 0 ∨ j = 1 ∨ j = 2 ∨ j = 3) with rfl | rfl | rfl | rfl
            · skip
              go_wp2_with (at_builtin; refine wpApp8 rfl (.tmp 29) (.tmp 36) rfl B _ _ rfl hown _ [(byte4 v).getD 0 0] 1 1 rfl rfl ?cc (by omega) (by omega) ?_)
              case cc => exact one8 (by have h := HSM.lt; have q := byte4_at v h; omega)
              intro v2 w2 hown2 hk2
              go_wp2
              go_roundw
              case rel => exact ⟨1, by go_num, by omega, by rw [HS.out, ← List.append_assoc, HPR.out]; exact hown2, hb.trans hk2⟩
              case measure => simp [intOf]; omega
            · skip
              go_wp2_with (at_builtin; refine wpApp8 rfl (.tmp 29) (.tmp 36) rfl B _ _ rfl hown _ [(byte4 v).getD 1 0] 1 1 rfl rfl ?cc (by omega) (by omega) ?_)
              case cc => exact one8 (by have h := HSM.lt; have q := byte4_at v h; omega)
              intro v2 w2 hown2 hk2
              go_wp2
              go_roundw
              case rel => exact ⟨2, by go_num, by omega, by rw [HS.out, ← List.append_assoc, HPR.out]; exact hown2, hb.trans hk2⟩
              case measure => simp [intOf]; omega
            · skip
              go_wp2_with (at_builtin; refine wpApp8 rfl (.tmp 29) (.tmp 36) rfl B _ _ rfl hown _ [(byte4 v).getD 2 0] 1 1 rfl rfl ?cc (by omega) (by omega) ?_)
              case cc => exact one8 (by have h := HSM.lt; have q := byte4_at v h; omega)
              intro v2 w2 hown2 hk2
              go_wp2
              go_roundw
              case rel => exact ⟨3, by go_num, by omega, by rw [HS.out, ← List.append_assoc, HPR.out]; exact hown2, hb.trans hk2⟩
              case measure => simp [intOf]; omega
            · skip
              go_wp2_with (at_builtin; refine wpApp8 rfl (.tmp 29) (.tmp 36) rfl B _ _ rfl hown _ [(byte4 v).getD 3 0] 1 1 rfl rfl ?cc (by omega) (by omega) ?_)
              case cc => exact one8 (by have h := HSM.lt; have q := byte4_at v h; omega)
              intro v2 w2 hown2 hk2
              go_wp2
              go_roundw
              case rel => exact ⟨4, by go_num, by omega, by rw [HS.out, ← List.append_assoc, HPR.out]; exact hown2, hb.trans hk2⟩
              case measure => simp [intOf]; omega
          · obtain rfl : j = m := by omega
            go_wp2
            go_ret2
            rw [HV.out, HQ.out]
            exact ⟨_, rfl, hown, hb⟩
end Go.Proofs.Ytemegkdfenjefaa
