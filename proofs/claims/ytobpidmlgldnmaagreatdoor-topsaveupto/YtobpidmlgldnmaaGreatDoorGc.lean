/-
  Joined: Ga, Gb, Gc.
-/
import Derived.Test.YtobpidmlgldnmaaGreatDoorCb
import Derived.Test.YtobpidmlgldnmaaGreatDoorPt
import Derived.Test.YtobpidmlgldnmaaGreatDoorCp
import Derived.Test.YtobpidmlgldnmaaGreatDoorShelf
import Derived.Laws.BitsLemmas
import Derived.Deep.DrawnRows
import Derived.Test.YtobpidmlgldnmaaGreatDoorAm
import Derived.Test.YtobpidmlgldnmaaGreatDoorRows
import Derived.Maps.OwnSet
import Derived.Maps.OwnOps
import Derived.WalkKit
import Derived.Handy
import Derived.Carry

/-
  Numbers of four digits to the base 16, as the library reads them.
-/
namespace Go.Proofs.YtobpidmlgldnmaaGreatDoor
open Go.RowKit
set_option maxRecDepth 100000
attribute [local go_sem ↓] Go.wp_at_zero Go.wp_at_succ

/-- The number that digits tell. -/
def hxN (xs : List Nat) : Nat := xs.foldl (fun a x => 16 * a + x) 0
theorem hxN_snoc (xs : List Nat) (x : Nat) : hxN (xs ++ [x]) = 16 * hxN xs + x := by unfold hxN; simp
theorem hxN_lt' : ∀ (n : Nat) (xs : List Nat), xs.length = n → (∀ x ∈ xs, x < 16) → hxN xs < 16 ^ n
  | 0, xs, h, _ => by rw [List.eq_nil_of_length_eq_zero h]; decide
  | n + 1, xs, h, hx => by
    have hne : xs ≠ [] := fun q => by rw [q] at h; cases h
    rw [← List.dropLast_concat_getLast hne] at hx ⊢
    have a := hxN_lt' n xs.dropLast (by rw [List.length_dropLast]; omega) (fun y hy => hx y (List.mem_append.2 (.inl hy)))
    have b := hx (xs.getLast hne) (List.mem_append.2 (.inr (by simp)))
    rw [hxN_snoc, Nat.pow_succ]; omega
theorem hxN_take (xs : List Nat) (k : Nat) (hk : k ≤ 4) (hx : ∀ x ∈ xs, x < 16) : hxN (xs.take k) < 65536 := by
  have q := hxN_lt' (xs.take k).length (xs.take k) rfl (fun x h => hx x (List.mem_of_mem_take h))
  have h4 : (xs.take k).length ≤ 4 := by rw [List.length_take]; omega
  exact Nat.lt_of_lt_of_le q (Nat.le_trans (Nat.pow_le_pow_right (by decide) h4) (by decide))
theorem lower_hex {c : Int} (h0 : 65 ≤ c) (h1 : c ≤ 70) (w : World) : Calls Tryz.prog 196 #[.int .u8 c] w fun e w' => e = .returned (.int .u8 (c + 32)) ∧ w' = w := by
  have e : bits .or .u8 c 32 = c + 32 := by
    have q : ∀ x : Fin 6, bits .or .u8 ((x.1 : Int) + 65) 32 = (x.1 : Int) + 65 + 32 := by decide
    have q2 := q ⟨(c - 65).toNat, by omega⟩
    rw [show (((⟨(c - 65).toNat, by omega⟩ : Fin 6).1 : Nat) : Int) + 65 = c by simp; omega] at q2
    exact q2
  go_enter Tryz.func196, Tryz.ntmps196
  go_wp2
  go_ret
  exact ⟨by first | rfl | (rw [e]), rfl⟩
set_option maxHeartbeats 2000000 in
theorem parseUint4 (s : ByteArray) (xs : List Nat) (w : World) (hs : s.data.toList = xs.map dgx) (hx : ∀ x ∈ xs, x < 16) (hl : xs.length = 4) :
    Calls Tryz.prog 184 #[.string s, .int .i64 16, .int .i64 32] w fun e w' => e = .returned (.tuple #[.int .u64 (hxN xs : Nat), .nilIface]) ∧ Below w.heap.size w w' := by
  have hsz : s.size = 4 := by rw [show s.size = s.data.toList.length by simp, hs, List.length_map, hl]
  have hie : s.toList.isEmpty = false := by cases hh : s.toList with
    | nil => have := (toListNil s).1 hh; omega
    | cons a l => rfl
  have hsz' : (s.size : Int) = 4 := by omega
  have HS := hid (And.intro hs (And.intro hx hl))
  clear hs hx hl hsz
  go_enter Tryz.func184, Tryz.ntmps184
  obtain ⟨vb, wb, hcv, hown, hbb⟩ := run_convM w s (by omega)
  have hce := fun g => OwnM.cells hown (g := g)
  obtain ⟨g, cap, cur, fz, rfl, _, hgg, _⟩ := hown
  have hlen : s.data.toList.length = 4 := by rw [HS.out.1, List.length_map]; exact HS.out.2.2
  rw [hlen] at hcv
  have HC := hid (show ∀ k x, xs[k]? = some x → wb.cell? ⟨g, k, none⟩ = some (.int .u8 ((dgx x).toNat : Int)) from fun k x hk => by
    have q := hce g rfl k (byteV (dgx x)) (by rw [HS.out.1]; simp [hk])
    rwa [Lib.add_plain, Nat.zero_add] at q)
  have hgl := (Array.getElem?_eq_some_iff.1 hgg).1
  clear hce hgg
  go_wp2_with fail
  go_loopw [12, 13, 101] (fun u n i wr => ∃ k : Nat, k ≤ 4 ∧ u = .bool false ∧ i = .int .i64 k ∧ n = .int .u64 (hxN (xs.take k) : Nat) ∧ wr = wb) (fun _ _ i _ => 4 - (intOf i).toNat)
  case atStart => exact ⟨0, by omega, rfl, rfl, rfl, rfl⟩
  case round =>
    obtain ⟨k, hk, rfl, rfl, rfl, rfl⟩ := hrel
    by_cases hk4 : k < 4
    · have hk4' : (k : Int) < 4 := by omega
      have hkl : k < xs.length := by have := HS.out.2.2; omega
      have hc := HC.out k xs[k] (List.getElem?_eq_getElem hkl)
      have hx16 := HS.out.2.1 xs[k] (List.getElem_mem hkl)
      have HT := hid (show hxN (xs.take (k + 1)) = 16 * hxN (xs.take k) + xs[k] by rw [List.take_succ_eq_append_getElem hkl, hxN_snoc])
      have HB := hxN_take xs k hk HS.out.2.1
      generalize xs[k] = x at *
      generalize hxN (xs.take k) = N at *
      have d1 : decide ((1152921504606846976 : Int) ≤ (N : Int)) = false := decide_eq_false (by omega)
      by_cases h10 : x < 10
      · have e : ((dgx x).toNat : Int) = 48 + (x : Int) := by unfold dgx; rw [if_pos h10, ofNat_toNat (by omega)]; omega
        rw [e] at hc
        have hx' : (x : Int) < 10 := by omega
        have w1 : IntKind.u64.wrap ((N : Int) * 16) = (N : Int) * 16 := by rw [IntKind.wrap_u64]; omega
        have w2 : IntKind.u64.wrap ((N : Int) * 16 + (48 + (x : Int) - 48)) = (N : Int) * 16 + x := by rw [IntKind.wrap_u64]; omega
        have d2 : decide ((N : Int) * 16 + (x : Int) < (N : Int) * 16) = false := decide_eq_false (by omega)
        have d3 : decide ((4294967295 : Int) < (N : Int) * 16 + (x : Int)) = false := decide_eq_false (by omega)
        clear HB hx16 h10 e
        go_wp2_with fail
        go_roundw
        case rel => exact ⟨k + 1, by omega, rfl, by go_num, by rw [HT.out]; congr 1; push_cast; omega, by first | rfl | trivial⟩
        case measure => simp [intOf]; omega
      · obtain ⟨y, rfl⟩ : ∃ y, x = 10 + y := ⟨x - 10, by omega⟩
        have e : ((dgx (10 + y)).toNat : Int) = 65 + (y : Int) := by unfold dgx; rw [if_neg h10, ofNat_toNat (by omega)]; omega
        rw [e] at hc
        have hy' : (y : Int) < 6 := by omega
        have HLW := hid (fun W => lower_hex (c := 65 + (y : Int)) (by omega) (by omega) W)
        have w1 : IntKind.u64.wrap ((N : Int) * 16) = (N : Int) * 16 := by rw [IntKind.wrap_u64]; omega
        have w2 : IntKind.u64.wrap ((N : Int) * 16 + (65 + (y : Int) + 32 - 97 + 10)) = (N : Int) * 16 + (10 + y) := by rw [IntKind.wrap_u64]; omega
        have d2 : decide ((N : Int) * 16 + (10 + (y : Int)) < (N : Int) * 16) = false := decide_eq_false (by omega)
        have d3 : decide ((4294967295 : Int) < (N : Int) * 16 + (10 + (y : Int))) = false := decide_eq_false (by omega)
        clear HB hx16 h10 e
        go_wp2_with (go_at_call 196; refine (HLW.out _).mono ?_; rintro e w9 ⟨rfl, rfl⟩)
        go_roundw
        case rel => exact ⟨k + 1, by omega, rfl, by go_num, by rw [HT.out]; congr 1; push_cast; omega, by first | rfl | trivial⟩
        case measure => simp [intOf]; omega
    · obtain rfl : k = 4 := by omega
      go_wp2_with fail
      go_ret2
      refine ⟨?_, hbb⟩
      have e : xs.take 4 = xs := List.take_of_length_le (by rw [HS.out.2.2]; omega)
      rw [e]; rfl
end Go.Proofs.YtobpidmlgldnmaaGreatDoor

/-
  Numbers of four digits to the base 16, further.
-/
namespace Go.Proofs.YtobpidmlgldnmaaGreatDoor
open Go.RowKit
set_option maxRecDepth 100000
attribute [local go_sem ↓] Go.wp_at_zero Go.wp_at_succ

set_option maxHeartbeats 1000000 in
theorem parseInt4i (s : ByteArray) (xs : List Nat) (w : World) (hs : s.data.toList = xs.map dgx) (hx : ∀ x ∈ xs, x < 16) (hl : xs.length = 4) :
    Calls Tryz.prog 168 #[.string s, .int .i64 16, .int .i64 32] w fun e w' => e = .returned (.tuple #[.int .i64 (hxN xs : Nat), .nilIface]) ∧ Below w.heap.size w w' := by
  have hp := parseUint4 s xs w hs hx hl
  have hsz : s.size = 4 := by rw [show s.size = s.data.toList.length by simp, hs, List.length_map, hl]
  have hie : s.toList.isEmpty = false := by cases hh : s.toList with
    | nil => have := (toListNil s).1 hh; omega
    | cons a l => rfl
  have hlt : hxN xs < 65536 := by have := hxN_take xs 4 (by omega) hx; rwa [List.take_of_length_le (by omega)] at this
  have h0 : 0 < s.size := by omega
  obtain ⟨x0, r, rfl⟩ : ∃ x0 r, xs = x0 :: r := by
    cases xs with
    | nil => cases hl
    | cons a r => exact ⟨a, r, rfl⟩
  have hb : s[0] = dgx x0 := by
    have : s = ⟨((x0 :: r).map dgx).toArray⟩ := by apply Go.WideShapes.bytes_inj; simpa using hs
    subst this
    rfl
  have hd : (∀ n : Fin 16, ((dgx n.1).toNat : Int) ≠ 43 ∧ ((dgx n.1).toNat : Int) ≠ 45) := by decide
  have hx0 := hx x0 (by simp)
  have hne := hd ⟨x0, hx0⟩
  have c1 : ((dgx x0).toNat : Int) ≠ 43 := hne.1
  have c2 : ((dgx x0).toNat : Int) ≠ 45 := hne.2
  have c3 : (((dgx x0).toNat : Int) == 43) = false := by simpa using c1
  have c4 : (((dgx x0).toNat : Int) == 45) = false := by simpa using c2
  rw [← hb] at c1 c2 c3 c4
  generalize hxN (x0 :: r) = N at *
  have d1 : decide ((2147483648 : Int) ≤ (N : Int)) = false := decide_eq_false (by omega)
  have h0' : (0 : Int) < s.size := by omega
  have HN := hid hlt
  clear hs hx hl hsz hb hd hx0 hne hlt
  go_enter Tryz.func168, Tryz.ntmps168
  go_wp2_with (go_at_call 184; go_must (refine hp.mono ?_); rintro e w1 ⟨rfl, hb1⟩)
  go_ret2
  refine ⟨?_, hb1⟩
  show Ending.returned (.tuple #[.int .i64 (wrap64 (N : Int)), .nilIface]) = _
  rw [show wrap64 (N : Int) = (N : Int) by have := HN.out; unfold wrap64; omega]
theorem parseInt4 (s : ByteArray) (xs : List Nat) (w : World) (hs : s.data.toList = xs.map dgx) (hx : ∀ x ∈ xs, x < 16) (hl : xs.length = 4) :
    Calls Tryz.prog 164 #[.string s, .int .i64 16, .int .i64 32] w fun e w' => e = .returned (.tuple #[.int .i64 (hxN xs : Nat), .nilIface]) ∧ Below w.heap.size w w' := by
  have hp := parseInt4i s xs w hs hx hl
  clear hs hx hl
  go_enter Tryz.func164, Tryz.ntmps164
  go_wp2_with (go_at_call 168; go_must (refine hp.mono ?_); rintro e w1 ⟨rfl, hb1⟩)
  go_ret2
  exact ⟨rfl, hb1⟩
end Go.Proofs.YtobpidmlgldnmaaGreatDoor

/-
  Names of signs: the table.
-/
namespace Go.Proofs.YtobpidmlgldnmaaGreatDoor
open Go.RowKit Go.WideMaps Go.Maps
set_option maxRecDepth 100000

/-- Signs that have a word for a name. -/
def tbl : List (List UInt8 × Int) := [([115, 112, 97, 99, 101], 32), ([112, 101, 114, 105, 111, 100], 46), ([99, 111, 109, 109, 97], 44), ([104, 121, 112, 104, 101, 110], 45), ([99, 111, 108, 111, 110], 58), ([122, 101, 114, 111], 48), ([111, 110, 101], 49), ([116, 119, 111], 50), ([116, 104, 114, 101, 101], 51), ([102, 111, 117, 114], 52), ([102, 105, 118, 101], 53), ([115, 105, 120], 54), ([115, 101, 118, 101, 110], 55), ([101, 105, 103, 104, 116], 56), ([110, 105, 110, 101], 57)]
/-- The last one of a name. -/
def lk : List (List UInt8 × Int) → List UInt8 → Option Int
  | [], _ => none
  | p :: ps, k => match lk ps k with
    | some v => some v
    | none => if p.1 = k then some p.2 else none
def putAll (D : DataW Unit) (ps : List (List UInt8 × Int)) : DataW Unit := ps.foldl (fun D p => D.put (.string p.1) (.lit (.int .i32 p.2))) D
theorem isMap_put {D : DataW Unit} (h : IsMap D) (k : Lit) (d : DataW Unit) : IsMap (D.put k d) := by
  obtain ⟨es, rfl⟩ := h
  exact ⟨_, rfl⟩
theorem keyLit (k : List UInt8) : WideAt.IsKeyLit (.string k) := by first | trivial | exact .intro | simp [WideAt.IsKeyLit]
theorem putAll_look : ∀ (ps : List (List UInt8 × Int)) (D : DataW Unit) (k : List UInt8) (z : DataW Unit), IsMap D →
    Maps.has (putAll D ps) (.string k) = ((lk ps k).isSome || Maps.has D (.string k)) ∧ (putAll D ps).atKey (.string k) z = (match lk ps k with | some v => .lit (.int .i32 v) | none => D.atKey (.string k) z)
  | [], D, k, z, _ => by simp [putAll, lk]
  | p :: ps, D, k, z, h => by
    have q := putAll_look ps (D.put (.string p.1) (.lit (.int .i32 p.2))) k z (isMap_put h _ _)
    have e : putAll D (p :: ps) = putAll (D.put (.string p.1) (.lit (.int .i32 p.2))) ps := rfl
    have el : lk (p :: ps) k = (match lk ps k with | some v => some v | none => if p.1 = k then some p.2 else none) := rfl
    rw [e, q.1, q.2, el]
    cases hl : lk ps k with
    | some v => simp
    | none =>
      by_cases hk : p.1 = k
      · subst hk
        rw [if_pos rfl, has_put_same h (keyLit _), atKey_put_same h (keyLit _)]
        simp
      · have hne : (Lit.string k) ≠ .string p.1 := fun e => hk (by injection e with e; exact e.symm)
        rw [if_neg hk, has_put_other hne, atKey_put_other hne]
        simp
theorem hid' {p : Prop} (h : p) : Hid p := h
theorem lawS : Keyed Tryz.prog 9 := string_keyed Tryz.underlying9
theorem zeroRune (w : World) : (zeroValue 21).run Tryz.prog w = .ok (.int .i32 0) w := by kernel_rfl
def tblD : DataW Unit := putAll (.map []) tbl
theorem tbl_has (k : List UInt8) : Maps.has tblD (.string k) = (lk tbl k).isSome := by
  have q := (putAll_look tbl (.map []) k .nil ⟨_, rfl⟩).1
  unfold tblD
  rw [q]
  have : Maps.has (DataW.map [] : DataW Unit) (.string k) = false := rfl
  rw [this, Bool.or_false]
theorem tbl_at (k : List UInt8) : tblD.atKey (.string k) (.lit (.int .i32 0)) = .lit (.int .i32 ((lk tbl k).getD 0)) := by
  have q := (putAll_look tbl (.map []) k (.lit (.int .i32 0)) ⟨_, rfl⟩).2
  unfold tblD
  rw [q]
  cases lk tbl k with
  | some v => rfl
  | none => rfl
set_option maxHeartbeats 4000000 in
theorem called_says (w : World) : Calls Tryz.prog 147 #[] w fun e w' => e = .returned (.map (some w.heap.size)) ∧ w'.ownsMap Tryz.prog 9 (plainElem (H := Unit) Tryz.prog 21) w.heap.size 15 tblD ∧ Below w.heap.size w w' := by
  have hmm := @run_makeMap Tryz.prog
  have o0 : (w.alloc (.map #[] 0)).ownsMap Tryz.prog 9 (plainElem (H := Unit) Tryz.prog 21) w.heap.size 0 (.map []) := World.ownsMap_made _ _ _ _
  have b0 : Below w.heap.size w (w.alloc (.map #[] 0)) := (Below.refl _ _).alloc (Nat.le_refl _) _
  obtain ⟨w1, h1, o1, g1⟩ := o0.update lawS Tryz.underlying204 (by unfold maxLen; decide) (key := .string ⟨#[115, 112, 97, 99, 101]⟩) (keyOf_string_mk Tryz.underlying9 (by unfold maxLen; decide)) (val := .int .i32 32) (plainElem_int Tryz.underlying21 (by decide))
  have b1 := b0.grown g1 b0.size (fun j hj => by cases hj; exact Nat.le_refl _)
  clear o0 b0 g1
  obtain ⟨w2, h2, o2, g2⟩ := o1.update lawS Tryz.underlying204 (by unfold maxLen; decide) (key := .string ⟨#[112, 101, 114, 105, 111, 100]⟩) (keyOf_string_mk Tryz.underlying9 (by unfold maxLen; decide)) (val := .int .i32 46) (plainElem_int Tryz.underlying21 (by decide))
  have b2 := b1.grown g2 b1.size (fun j hj => by cases hj; exact Nat.le_refl _)
  clear o1 b1 g2
  obtain ⟨w3, h3, o3, g3⟩ := o2.update lawS Tryz.underlying204 (by unfold maxLen; decide) (key := .string ⟨#[99, 111, 109, 109, 97]⟩) (keyOf_string_mk Tryz.underlying9 (by unfold maxLen; decide)) (val := .int .i32 44) (plainElem_int Tryz.underlying21 (by decide))
  have b3 := b2.grown g3 b2.size (fun j hj => by cases hj; exact Nat.le_refl _)
  clear o2 b2 g3
  obtain ⟨w4, h4, o4, g4⟩ := o3.update lawS Tryz.underlying204 (by unfold maxLen; decide) (key := .string ⟨#[104, 121, 112, 104, 101, 110]⟩) (keyOf_string_mk Tryz.underlying9 (by unfold maxLen; decide)) (val := .int .i32 45) (plainElem_int Tryz.underlying21 (by decide))
  have b4 := b3.grown g4 b3.size (fun j hj => by cases hj; exact Nat.le_refl _)
  clear o3 b3 g4
  obtain ⟨w5, h5, o5, g5⟩ := o4.update lawS Tryz.underlying204 (by unfold maxLen; decide) (key := .string ⟨#[99, 111, 108, 111, 110]⟩) (keyOf_string_mk Tryz.underlying9 (by unfold maxLen; decide)) (val := .int .i32 58) (plainElem_int Tryz.underlying21 (by decide))
  have b5 := b4.grown g5 b4.size (fun j hj => by cases hj; exact Nat.le_refl _)
  clear o4 b4 g5
  obtain ⟨w6, h6, o6, g6⟩ := o5.update lawS Tryz.underlying204 (by unfold maxLen; decide) (key := .string ⟨#[122, 101, 114, 111]⟩) (keyOf_string_mk Tryz.underlying9 (by unfold maxLen; decide)) (val := .int .i32 48) (plainElem_int Tryz.underlying21 (by decide))
  have b6 := b5.grown g6 b5.size (fun j hj => by cases hj; exact Nat.le_refl _)
  clear o5 b5 g6
  obtain ⟨w7, h7, o7, g7⟩ := o6.update lawS Tryz.underlying204 (by unfold maxLen; decide) (key := .string ⟨#[111, 110, 101]⟩) (keyOf_string_mk Tryz.underlying9 (by unfold maxLen; decide)) (val := .int .i32 49) (plainElem_int Tryz.underlying21 (by decide))
  have b7 := b6.grown g7 b6.size (fun j hj => by cases hj; exact Nat.le_refl _)
  clear o6 b6 g7
  obtain ⟨w8, h8, o8, g8⟩ := o7.update lawS Tryz.underlying204 (by unfold maxLen; decide) (key := .string ⟨#[116, 119, 111]⟩) (keyOf_string_mk Tryz.underlying9 (by unfold maxLen; decide)) (val := .int .i32 50) (plainElem_int Tryz.underlying21 (by decide))
  have b8 := b7.grown g8 b7.size (fun j hj => by cases hj; exact Nat.le_refl _)
  clear o7 b7 g8
  obtain ⟨w9, h9, o9, g9⟩ := o8.update lawS Tryz.underlying204 (by unfold maxLen; decide) (key := .string ⟨#[116, 104, 114, 101, 101]⟩) (keyOf_string_mk Tryz.underlying9 (by unfold maxLen; decide)) (val := .int .i32 51) (plainElem_int Tryz.underlying21 (by decide))
  have b9 := b8.grown g9 b8.size (fun j hj => by cases hj; exact Nat.le_refl _)
  clear o8 b8 g9
  obtain ⟨w10, h10, o10, g10⟩ := o9.update lawS Tryz.underlying204 (by unfold maxLen; decide) (key := .string ⟨#[102, 111, 117, 114]⟩) (keyOf_string_mk Tryz.underlying9 (by unfold maxLen; decide)) (val := .int .i32 52) (plainElem_int Tryz.underlying21 (by decide))
  have b10 := b9.grown g10 b9.size (fun j hj => by cases hj; exact Nat.le_refl _)
  clear o9 b9 g10
  obtain ⟨w11, h11, o11, g11⟩ := o10.update lawS Tryz.underlying204 (by unfold maxLen; decide) (key := .string ⟨#[102, 105, 118, 101]⟩) (keyOf_string_mk Tryz.underlying9 (by unfold maxLen; decide)) (val := .int .i32 53) (plainElem_int Tryz.underlying21 (by decide))
  have b11 := b10.grown g11 b10.size (fun j hj => by cases hj; exact Nat.le_refl _)
  clear o10 b10 g11
  obtain ⟨w12, h12, o12, g12⟩ := o11.update lawS Tryz.underlying204 (by unfold maxLen; decide) (key := .string ⟨#[115, 105, 120]⟩) (keyOf_string_mk Tryz.underlying9 (by unfold maxLen; decide)) (val := .int .i32 54) (plainElem_int Tryz.underlying21 (by decide))
  have b12 := b11.grown g12 b11.size (fun j hj => by cases hj; exact Nat.le_refl _)
  clear o11 b11 g12
  obtain ⟨w13, h13, o13, g13⟩ := o12.update lawS Tryz.underlying204 (by unfold maxLen; decide) (key := .string ⟨#[115, 101, 118, 101, 110]⟩) (keyOf_string_mk Tryz.underlying9 (by unfold maxLen; decide)) (val := .int .i32 55) (plainElem_int Tryz.underlying21 (by decide))
  have b13 := b12.grown g13 b12.size (fun j hj => by cases hj; exact Nat.le_refl _)
  clear o12 b12 g13
  obtain ⟨w14, h14, o14, g14⟩ := o13.update lawS Tryz.underlying204 (by unfold maxLen; decide) (key := .string ⟨#[101, 105, 103, 104, 116]⟩) (keyOf_string_mk Tryz.underlying9 (by unfold maxLen; decide)) (val := .int .i32 56) (plainElem_int Tryz.underlying21 (by decide))
  have b14 := b13.grown g14 b13.size (fun j hj => by cases hj; exact Nat.le_refl _)
  clear o13 b13 g14
  obtain ⟨w15, h15, o15, g15⟩ := o14.update lawS Tryz.underlying204 (by unfold maxLen; decide) (key := .string ⟨#[110, 105, 110, 101]⟩) (keyOf_string_mk Tryz.underlying9 (by unfold maxLen; decide)) (val := .int .i32 57) (plainElem_int Tryz.underlying21 (by decide))
  have b15 := b14.grown g15 b14.size (fun j hj => by cases hj; exact Nat.le_refl _)
  clear o14 b14 g15
  have HO := hid' o15
  clear o15
  go_enter Tryz.func147, Tryz.ntmps147
  go_wp2_with fail
  go_ret
  exact ⟨rfl, HO.out, b15⟩
end Go.Proofs.YtobpidmlgldnmaaGreatDoor
