/-
  Reading a program: the text that units are.
-/
import Derived.Test.YtggojafapieliabDoorEb
namespace Go.Proofs.YtggojafapieliabDoor
open Go.RowKit
set_option maxRecDepth 100000
attribute [local go_sem ↓] Go.wp_at_zero Go.wp_at_succ

theorem runeCells_enc (r : Nat) (h : okR r) : Lib.runeCells (r : Int) = (encR r).map byteV := by
  unfold okR at h
  unfold Lib.runeCells encR
  by_cases a : r < 128
  · rw [if_pos a, Lib.encodeRuneZ_one (by omega) (by omega)]
    simp only [List.map_cons, List.map_nil, byteV]
    rw [ofNat_toNat (by omega)]
  rw [if_neg a]
  by_cases b : r < 2048
  · rw [if_pos b, Lib.encodeRuneZ_two (by omega) (by omega)]
    simp only [List.map_cons, List.map_nil, byteV]
    rw [ofNat_toNat (by omega), ofNat_toNat (by omega)]
    rw [show ((192 + r / 64 : Nat) : Int) = 192 + (r : Int) / 64 by omega, show ((128 + r % 64 : Nat) : Int) = 128 + (r : Int) % 64 by omega]
  rw [if_neg b]
  by_cases c : r < 65536
  · rw [if_pos c, Lib.encodeRuneZ_three (by omega)]
    simp only [List.map_cons, List.map_nil, byteV]
    rw [ofNat_toNat (by omega), ofNat_toNat (by omega), ofNat_toNat (by omega)]
    rw [show ((224 + r / 4096 : Nat) : Int) = 224 + (r : Int) / 4096 by omega, show ((128 + r / 64 % 64 : Nat) : Int) = 128 + (r : Int) / 64 % 64 by omega, show ((128 + r % 64 : Nat) : Int) = 128 + (r : Int) % 64 by omega]
  · rw [if_neg c, Lib.encodeRuneZ_four (by omega) (by omega)]
    simp only [List.map_cons, List.map_nil, byteV]
    rw [ofNat_toNat (by omega), ofNat_toNat (by omega), ofNat_toNat (by omega), ofNat_toNat (by omega)]
    rw [show ((240 + r / 262144 : Nat) : Int) = 240 + (r : Int) / 262144 by omega, show ((128 + r / 4096 % 64 : Nat) : Int) = 128 + (r : Int) / 4096 % 64 by omega, show ((128 + r / 64 % 64 : Nat) : Int) = 128 + (r : Int) / 64 % 64 by omega, show ((128 + r % 64 : Nat) : Int) = 128 + (r : Int) % 64 by omega]
/-- Bytes in a block, from a place on. -/
def By (w : World) (g o : Nat) (bs : List UInt8) : Prop := ∀ j y, bs[j]? = some y → w.cell? ⟨g, o + j, none⟩ = some (.int .u8 (y.toNat : Int))
theorem By.later {w w' : World} {g o : Nat} {bs : List UInt8} (h : By w g o bs) (hg : g < w.heap.size) (hb : Below w.heap.size w w') : By w' g o bs := fun j y hj => (hb.cell (p := ⟨g, o + j, none⟩) hg).trans (h j y hj)
theorem By.drop {w : World} {g o : Nat} {xs ys : List UInt8} (h : By w g o (xs ++ ys)) : By w g (o + xs.length) ys := fun j y hj => by
  have q := h (xs.length + j) y (by rw [List.getElem?_append_right (by omega)]; simpa using hj)
  rwa [← Nat.add_assoc] at q
theorem By.take {w : World} {g o : Nat} {xs ys : List UInt8} (h : By w g o (xs ++ ys)) : By w g o xs := fun j y hj => h j y (by rw [List.getElem?_append_left (List.getElem?_eq_some_iff.1 hj).1]; exact hj)
theorem unitN (g o n k u : Nat) (w : World) (hu : u < 65536) (hn : 2 ≤ n) (h : By w g o (un2 u)) :
    Calls Tryd.prog 121 #[.slice (some ⟨g, o, none⟩) n k] w fun e w' => e = .returned (.tuple #[.int .i32 (u : Int), .bool true]) ∧ Below w.heap.size w w' := by
  have q := unitAt g o n k (UInt8.ofNat (u / 256)) (UInt8.ofNat (u % 256)) w hn (h 0 _ rfl) (h 1 _ rfl)
  rw [ofNat_toNat (by omega), ofNat_toNat (by omega)] at q
  rw [show ((u / 256 : Nat) : Int) * 256 + ((u % 256 : Nat) : Int) = (u : Int) by omega] at q
  exact q
theorem unitI (g o n k u : Nat) (z : Int) (w : World) (hz : (u : Int) = z) (hu : u < 65536) (hn : 2 ≤ n) (h : By w g o (un2 u)) :
    Calls Tryd.prog 121 #[.slice (some ⟨g, o, none⟩) n k] w fun e w' => e = .returned (.tuple #[.int .i32 z, .bool true]) ∧ Below w.heap.size w w' := by
  subst hz; exact unitN g o n k u w hu hn h
set_option maxHeartbeats 1000000 in
theorem signLo (g o n k r : Nat) (w : World) (hr : r < 55296 ∨ 57344 ≤ r ∧ r < 65536) (hn : 2 ≤ n) (h : By w g o (un2 r)) :
    Calls Tryd.prog 109 #[.slice (some ⟨g, o, none⟩) n k] w fun e w' => e = .returned (.tuple #[.int .i32 (r : Int), .int .i64 2]) ∧ Below w.heap.size w w' := by
  have hu := unitN g o n k r w (by omega) hn h
  rcases hr with hr | hr
  · have c1 : decide ((56320 : Int) ≤ (r : Int)) = false := decide_eq_false (by omega)
    have c2 : decide ((r : Int) < 55296) = true := decide_eq_true (by omega)
    have HR := hid hr
    clear hr
    go_enter Tryd.func109, Tryd.ntmps109
    go_wp2_with (go_at_call 121; go_must (refine hu.mono ?_); rintro e w1 ⟨rfl, hb1⟩)
    all_goals first
      | (go_ret2; exact ⟨rfl, hb1⟩)
      | (exfalso; have := HR.out; omega)
  · obtain ⟨z, hz⟩ : ∃ z : Int, (r : Int) = z := ⟨_, rfl⟩
    have c1 : decide ((56320 : Int) ≤ z) = true := decide_eq_true (by omega)
    have c2 : decide (z < 57344) = false := decide_eq_false (by omega)
    have c3 : decide (z < 55296) = false := decide_eq_false (by omega)
    have c4 : decide ((57344 : Int) ≤ z) = true := decide_eq_true (by omega)
    rw [hz] at hu ⊢
    clear h hr hz
    go_enter Tryd.func109, Tryd.ntmps109
    go_wp2_with (go_at_call 121; go_must (refine hu.mono ?_); rintro e w1 ⟨rfl, hb1⟩)
    go_ret2
    exact ⟨rfl, hb1⟩
set_option maxHeartbeats 1000000 in
theorem signHi (g o n k r : Nat) (w : World) (hr : 65536 ≤ r) (hr2 : r ≤ 1114111) (hn : 4 ≤ n) (hk : n ≤ k) (hg : g < w.heap.size) (h : By w g o (un2 (55296 + (r - 65536) / 1024) ++ un2 (56320 + (r - 65536) % 1024))) :
    Calls Tryd.prog 109 #[.slice (some ⟨g, o, none⟩) n k] w fun e w' => e = .returned (.tuple #[.int .i32 (r : Int), .int .i64 4]) ∧ Below w.heap.size w w' := by
  obtain ⟨x, hx⟩ : ∃ x, x = (r - 65536) / 1024 := ⟨_, rfl⟩
  obtain ⟨y, hy⟩ : ∃ y, y = (r - 65536) % 1024 := ⟨_, rfl⟩
  rw [← hx, ← hy] at h
  have hx4 : x < 1024 := by omega
  have hy4 : y < 1024 := by omega
  have hrv : (r : Int) = 65536 + (x : Int) * 1024 + y := by omega
  obtain ⟨z, hz⟩ : ∃ z : Int, ((56320 + y : Nat) : Int) = z := ⟨_, rfl⟩
  have c1 : decide (z < 56320) = false := decide_eq_false (by omega)
  have c2 : decide ((57344 : Int) ≤ z) = false := decide_eq_false (by omega)
  have HU1 := hid (fun W (hB : Below w.heap.size w W) => unitI g o n k (55296 + x) (55296 + (x : Int)) W (by omega) (by omega) (by omega) (h.take.later hg hB))
  have HU2 := hid (fun W (hB : Below w.heap.size w W) (k2 : Nat) => unitI g (o + 2) (n - 2) k2 (56320 + y) z W hz (by omega) (by omega) (h.drop.later hg hB))
  have hn4 : (2 : Int) ≤ n := by omega
  have hk4 : (n : Int) ≤ k := by omega
  have hx4' : (x : Int) < 1024 := by omega
  have hy4' : (y : Int) < 1024 := by omega
  have HRV := hid (And.intro hrv (And.intro hz (And.intro hx4 hy4)))
  clear hx hy hr hr2 hrv h hz hy4 hy4'
  go_enter Tryd.func109, Tryd.ntmps109
  go_wp2_with (go_at_call 121; fail)
  go_at_call 121
  refine (HU1.out _ (Below.refl _ _)).mono ?_
  rintro e w1 ⟨rfl, hb1⟩
  go_wp2_with (go_at_call 121; fail)
  go_at_call 121
  refine (HU2.out _ hb1 _).mono ?_
  rintro e w2 ⟨rfl, hb2⟩
  have hB2 := chn' hb1 hb2
  go_wp2_with fail
  go_ret2
  have E : wrap32 (wrap32 (65536 + (55296 + (x : Int) - 55296) * 1024 + z) - 56320) = (r : Int) := by have := HRV.out; unfold wrap32; omega
  refine ⟨?_, hB2⟩
  show Ending.returned (.tuple #[.int .i32 (wrap32 (wrap32 (65536 + (55296 + (x : Int) - 55296) * 1024 + z) - 56320)), .int .i64 4]) = _
  rw [E]
theorem unR_ge (r : Nat) : 2 ≤ (unR r).length := by unfold unR; split <;> simp [un2]
theorem signAny (g o n k r : Nat) (w : World) (hr : okR r) (hn : (unR r).length ≤ n) (hk : n ≤ k) (hg : g < w.heap.size) (h : By w g o (unR r)) :
    Calls Tryd.prog 109 #[.slice (some ⟨g, o, none⟩) n k] w fun e w' => e = .returned (.tuple #[.int .i32 (r : Int), .int .i64 ((unR r).length : Nat)]) ∧ Below w.heap.size w w' := by
  unfold okR at hr
  unfold unR at h hn ⊢
  by_cases c : r < 65536
  · rw [if_pos c] at h hn ⊢
    exact signLo g o n k r w (by omega) hn h
  · rw [if_neg c] at h hn ⊢
    exact signHi g o n k r w (by omega) (by omega) hn hk hg h
theorem txtR_snoc (a : List Nat) (r : Nat) : txtR (a ++ [r]) = txtR a ++ encR r := by unfold txtR; simp
theorem unitsL_app (a b : List Nat) : unitsL (a ++ b) = unitsL a ++ unitsL b := by unfold unitsL; simp
theorem unitsL_cons (r : Nat) (b : List Nat) : unitsL (r :: b) = unR r ++ unitsL b := rfl
theorem txtR_len : ∀ rs : List Nat, (txtR rs).length ≤ 4 * rs.length
  | [] => Nat.le_refl _
  | r :: rs => by
    have a := txtR_len rs
    have b := (encR_len r).2
    show (encR r ++ txtR rs).length ≤ 4 * (rs.length + 1)
    rw [List.length_append]; omega
set_option maxHeartbeats 2000000 in
theorem signs_any (g k : Nat) (rs : List Nat) (w : World) (hne : rs ≠ []) (hr : ∀ r ∈ rs, okR r) (hl : rs.length ≤ 100) (hk : (unitsL rs).length ≤ k) (hg : g < w.heap.size) (h : By w g 0 (unitsL rs)) :
    Calls Tryd.prog 92 #[.slice (some ⟨g, 0, none⟩) (unitsL rs).length k] w fun e w' => e = .returned (.tuple #[.string ⟨(txtR rs).toArray⟩, .nilIface]) ∧ Below w.heap.size w w' := by
  have HB := hid h
  have HR := hid hr
  have HK := hid hk
  have HL := hid hl
  have HE := hid hne
  clear h hr hk hne hl
  go_enter Tryd.func92, Tryd.ntmps92
  go_wp2_with fail
  go_loopw [0, 4] (fun b v wr => (∃ dn rest, Hid (rs = dn ++ rest) ∧ ((Hid (rest ≠ []) ∧ b = .slice (some ⟨g, (unitsL dn).length, none⟩) (unitsL rest).length (k - (unitsL dn).length)) ∨ (Hid (rest = []) ∧ ∃ a q, b = .slice a 0 q)) ∧ Own8 wr w.heap.size v (txtR dn)) ∧ Below w.heap.size w wr) (fun b _ _ => match b with | .slice _ n _ => n | _ => 0)
  case atStart => exact ⟨⟨[], rs, hid rfl, .inl ⟨HE, rfl⟩, Own8.nil _ _⟩, Below.refl _ _⟩
  case round =>
    obtain ⟨⟨dn, rest, HD, ⟨HN, rfl⟩ | ⟨HN, a, q, rfl⟩, ho⟩, hB⟩ := hrel
    · obtain ⟨r, rest', rfl⟩ : ∃ r t, rest = r :: t := by
        cases rest with
        | nil => exact absurd rfl HN.out
        | cons r t => exact ⟨r, t, rfl⟩
      have hun := congrArg (fun x => (unitsL x).length) HD.out
      simp only [unitsL_app, unitsL_cons, List.length_append] at hun
      have hbs : By w g (unitsL dn).length (unR r ++ unitsL rest') := by
        have q := HB.out
        rw [HD.out, unitsL_app, unitsL_cons] at q
        have q2 := q.drop
        rwa [Nat.zero_add] at q2
      have hkk := HK.out
      have hge := unR_ge r
      have hok : okR r := HR.out r (by rw [HD.out]; simp)
      rw [show (unitsL (r :: rest')).length = (unR r).length + (unitsL rest').length by rw [unitsL_cons, List.length_append]]
      have HU := hid (fun W (hW : Below w.heap.size w W) => signAny g (unitsL dn).length ((unR r).length + (unitsL rest').length) (k - (unitsL dn).length) r W hok (by omega) (by omega) (Nat.lt_of_lt_of_le hg hW.size) (hbs.take.later hg hW))
      have hdl : (txtR dn).length ≤ 400 := by
        have q := txtR_len dn
        have q2 := congrArg List.length HD.out
        have q3 := HL.out
        rw [List.length_append] at q2; omega
      have HX := hid (show txtR (dn ++ [r]) = txtR dn ++ encR r from txtR_snoc dn r)
      have HRC := hid (runeCells_enc r hok)
      have hrz : (r : Int) ≤ 1114111 := by unfold okR at hok; omega
      generalize hm : (unR r).length = m at *
      generalize hp : (unitsL dn).length = p at *
      generalize hq : (unitsL rest').length = n at *
      have HP := hid (And.intro hm (And.intro hp hq))
      have hm4 : m ≤ 4 := by have := unR_len r; omega
      have hmk : m + n ≤ k - p := by omega
      clear hm hp hq hbs hun hok hkk
      have hmn : (0 : Int) < (m : Int) + n := by omega
      have hm0 : (m == 0) = false := by simp; omega
      have hmz : ((m : Int) == 0) = false := by simp; omega
      go_wp2_with (go_at_call 109; fail)
      go_at_call 109
      refine (HU.out _ hB).mono ?_
      rintro e w1 ⟨rfl, hb1⟩
      have hB1 := chn' hB hb1
      have ho1 := ho.later hb1
      clear hb1 ho hB HU
      go_wp2_with (go_at_call 110; fail)
      go_at_call 110
      refine (Tryd.utf8_AppendRune_plain w.heap.size _ (txtR dn).length ((txtR dn).map byteV) (r : Int) (by omega) (by omega) w1 ho1 (by omega) hB1.size).mono ?_
      rintro e w2 ⟨v2, rfl, ho2, o2, hg2⟩
      have hown : Own8 w2 w.heap.size v2 (txtR (dn ++ [r])) := by
        unfold Own8
        rw [HX.out, List.length_append, List.map_append]
        rw [HRC.out, List.length_map] at ho2
        exact ho2
      have hB2 : Below w.heap.size w w2 := by
        have q : Below w.heap.size (w1.alloc o2) w2 := (Below.refl _ _).grown hg2 (by simp; have := hB1.size; omega) (fun q hq => (World.ownsRow.lt ho1 q hq).1)
        exact (hB1.alloc hB1.size o2).trans q
      clear ho2 hg2 ho1 hB1
      go_wp2_with fail
      go_roundw
      case rel =>
        refine ⟨⟨dn ++ [r], rest', hid (by rw [HD.out]; simp), ?_, hown⟩, hB2⟩
        obtain ⟨q1, q2, q3⟩ := HP.out
        have hlen : (unitsL (dn ++ [r])).length = p + m := by rw [unitsL_app, List.length_append, unitsL_cons, List.length_append, q1, q2]; rfl
        cases rest' with
        | nil =>
          obtain rfl : n = 0 := q3.symm
          exact .inr ⟨hid rfl, _, _, rfl⟩
        | cons r2 t2 =>
          refine .inl ⟨hid (by simp), ?_⟩
          have hn2 : 2 ≤ n := by have := unR_ge r2; rw [unitsL_cons, List.length_append] at q3; omega
          rw [if_neg (by omega), hlen, q3, Nat.sub_sub]
      case measure => show n < m + n; omega
    · have hcv := own8_conv ho
      go_wp2_with fail
      go_ret2
      have e : dn = rs := by rw [HD.out, HN.out, List.append_nil]
      rw [← e]
      exact ⟨rfl, hB⟩
set_option maxHeartbeats 1000000 in
theorem text_any (t : ByteArray) (rs : List Nat) (w : World) (hne : rs ≠ []) (hr : ∀ r ∈ rs, okR r) (hl : rs.length ≤ 100) (h : t.data.toList = strH (unitsL rs)) :
    Calls Tryd.prog 69 #[.string t, .nilIface] w fun e w' => e = .returned (.tuple #[.string ⟨(txtR rs).toArray⟩, .nilIface]) ∧ Below w.heap.size w w' := by
  have hul := unitsL_len rs
  have hne2 : unitsL rs ≠ [] := fun q => by
    cases rs with
    | nil => exact hne rfl
    | cons r t => have := unR_ge r; rw [unitsL_cons] at q; have := congrArg List.length q; rw [List.length_append] at this; simp only [List.length_nil] at this; omega
  have H1 := hid h
  have HS := hid (fun (W : World) (g k : Nat) (hk : (unitsL rs).length ≤ k) (hg : g < W.heap.size) (hb : By W g 0 (unitsL rs)) => signs_any g k rs W hne hr hl hk hg hb)
  have HU := hid (show (unitsL rs).length ≤ 1000 by omega)
  have HN := hid hne2
  clear h hne hr hl hul hne2
  go_enter Tryd.func69, Tryd.ntmps69
  go_wp2_with (go_at_call 67; fail)
  go_at_call 67
  refine (stringBytes_says t (unitsL rs) _ H1.out HU.out).mono ?_
  rintro e w1 ⟨v1, rfl, ho1, hb1⟩
  obtain ⟨g, k1, rfl, hk1, hg, hcell⟩ := own_cell ho1 HN.out
  have hs := HS.out w1 g k1 hk1 hg (fun j y hj => by rw [Nat.zero_add]; exact hcell j y hj)
  generalize (unitsL rs).length = n at *
  clear hcell ho1
  go_wp2_with (go_at_call 92; go_must (refine hs.mono ?_); rintro e w2 ⟨rfl, hb2⟩)
  go_ret2
  exact ⟨rfl, chn' hb1 hb2⟩
end Go.Proofs.YtggojafapieliabDoor
