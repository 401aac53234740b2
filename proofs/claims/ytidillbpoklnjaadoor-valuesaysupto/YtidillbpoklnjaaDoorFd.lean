/-
  Joined: Fc, Fd.
-/
import Derived.Test.YtidillbpoklnjaaDoorFb
import Derived.Test.YtidillbpoklnjaaDoorPt
import Derived.Test.YtidillbpoklnjaaDoorShelf
import Derived.BigRegion

/-
  Contracts: the texts of numbers, of the program and of the document's answer.
-/
namespace Go.Proofs.YtidillbpoklnjaaDoor
open Go.RowKit
set_option maxRecDepth 100000

theorem conv1 (d : Nat) (hz : d < 10) (W : World) (b c : Nat) (hc : W.cell? ⟨b, 0, none⟩ = some (.int .u8 (48 + (d : Int)))) :
    (convert 93 9 (.slice (some ⟨b, 0, none⟩) 1 c)).run Tryd.prog W = .ok (.string ⟨#[dgt d]⟩) W := by
  have h := run_convert_bytes_back (P := Tryd.prog) W 93 9 5 ⟨b, 0, none⟩ c [dgt d] Tryd.underlying93 Tryd.underlying5 Tryd.underlying9 (fun j hj => by
    have : j = 0 := by simpa using hj
    subst this
    rw [Lib.add_plain, hc]
    simp [dgt]; omega)
  exact h

set_option maxHeartbeats 400000 in
theorem decimal_small (n : Nat) (w : World) (h : n < 10) :
    Calls Tryd.prog 47 #[.int .i64 n] w fun e w' => e = .returned (.string ⟨(Lib.decDigits n).toArray⟩) ∧ Below w.heap.size w w' := by
  have hd : Lib.decDigits n = [dgt n] := Lib.decDigits_one h
  rw [hd]
  clear hd
  have hcv := fun W b c => conv1 n h W b c
  go_enter Tryd.func47, Tryd.ntmps47
  go_wp2
  go_ret
  exact ⟨rfl, (Below.refl _ _).alloc (Nat.le_refl _) _⟩

theorem bcell1 {W w1 : World} (hb : Below W.heap.size W w1) {b : Nat} {v : Value} (h : W.cell? ⟨b, 0, none⟩ = some v) : w1.cell? ⟨b, 0, none⟩ = some v := cell_later hb h
theorem bel1 {w w' : World} {o : Obj} (hb : Below (w.alloc o).drew.heap.size (w.alloc o).drew w') : Below w.heap.size w w' :=
  ((Below.refl _ _).alloc (Nat.le_refl _) o).drew.trans (hb.mono (by simp))
theorem bel2 {w w' : World} (hb : Below w.drew.heap.size w.drew w') (o : Obj) : Below w.heap.size w (w'.alloc o) :=
  ((Below.refl _ _).drew.trans hb).alloc hb.size o
/-- A byte as a cell. -/
def byteV (b : UInt8) : Value := .int .u8 (b.toNat : Int)
theorem dgt_toNat {d : Nat} (h : d < 10) : (dgt d).toNat = 48 + d := by simp [dgt]; omega
theorem dig_cell {n : Nat} (h : n < 1000) : Value.int .u8 (48 + (n : Int) * 10 / 1000) = byteV (dgt (n / 100)) := by
  unfold byteV; rw [dgt_toNat (by omega)]; congr 1; omega
theorem one_new {w : World} {x v : Value} {e : TypeId} (hx : x = v) (j : Nat) (u : Value) (h : [v][j]? = some u) : (w.alloc (.cells #[x] e)).cell? ((⟨w.heap.size, 0, none⟩ : Addr).add j) = some u := by
  subst hx
  match j, h with
  | 0, h => rw [Lib.add_plain, World.cell?_alloc_new]; simpa using h
theorem bytes_of_own {w : World} {b : Nat} {v : Value} {n : Nat} {d : List UInt8} (h : w.ownsRow b 5 1 v n (d.map byteV)) (hn : 0 < n) : ∃ g c, v = .slice (some ⟨g, 0, none⟩) n c ∧ ∀ (k : Nat) (hk : k < d.length), w.cell? ((⟨g, 0, none⟩ : Addr).add k) = some (.int .u8 (d[k].toNat : Int)) := by
  have h0 := h
  obtain ⟨_, ⟨_, h2⟩ | ⟨g, cap, cur, rfl, _⟩⟩ := h
  · omega
  · exact ⟨g, cap, rfl, fun k hk => h0.cells (g := g) rfl k _ (by simp [hk, byteV])⟩
theorem conv_row {w : World} {d : List UInt8} {n g c : Nat} (hn : d.length = n) (hc : ∀ (k : Nat) (hk : k < d.length), w.cell? ((⟨g, 0, none⟩ : Addr).add k) = some (.int .u8 (d[k].toNat : Int))) :
    (convert 93 9 (.slice (some ⟨g, 0, none⟩) n c)).run Tryd.prog w = .ok (.string ⟨d.toArray⟩) w := by
  subst hn
  exact run_convert_bytes_back (P := Tryd.prog) w 93 9 5 ⟨g, 0, none⟩ c d Tryd.underlying93 Tryd.underlying5 Tryd.underlying9 hc
theorem ret_str {a b : ByteArray} (h : a = b) : Ending.returned (.string a) = .returned (.string b) := by rw [h]
set_option maxHeartbeats 400000 in
theorem decimal_big (n : Nat) (w : World) (h : ¬ n < 10) (hm : n ≤ 1000000000000)
   (ih : ∀ w, Calls Tryd.prog 47 #[.int .i64 ((n : Int) / 10)] w fun e w' => e = .returned (.string ⟨(Lib.decDigits (n / 10)).toArray⟩) ∧ Below w.heap.size w w') :
    Calls Tryd.prog 47 #[.int .i64 n] w fun e w' => e = .returned (.string ⟨(Lib.decDigits n).toArray⟩) ∧ Below w.heap.size w w' := by
  have h1 : (10 : Int) ≤ n := by omega
  have hcv := fun W b c => conv1 (n % 10) (by omega) W b c
  have ec : (((n % 10 : Nat) : Int)) = (n : Int) % 10 := by omega
  rw [ec] at hcv
  clear ec
  have e1 : IntKind.i64.wrap ((n : Int) / 10) = (n : Int) / 10 := IntWalk.i64_in _ (by omega)
  have e2 : (n : Int).tmod 10 = (n : Int) % 10 := tm_nonneg (by omega)
  have e3 : IntKind.i64.wrap (48 + (n : Int) % 10) = 48 + (n : Int) % 10 := IntWalk.i64_in _ (by omega)
  have e4 : IntKind.u8.wrap (48 + (n : Int) % 10) = 48 + (n : Int) % 10 := IntWalk.u8_in _ (by omega)
  have hadd : ∀ w, (Op.stringOp .add ⟨(Lib.decDigits (n / 10)).toArray⟩ ⟨#[dgt (n % 10)]⟩).run Tryd.prog w = .ok (.string ⟨(Lib.decDigits n).toArray⟩) w := fun w => by
    rw [dec_big h]; exact run_string_add_lists w (Lib.decDigits (n / 10)) [dgt (n % 10)] (dec_len _ (by omega)) (by simp)
  go_enter Tryd.func47, Tryd.ntmps47
  go_wp2
  go_region_with (go_at_call 47; refine (ih _).mono ?_; rintro e w' ⟨rfl, hb⟩; have hcc := hb.cell (p := ⟨w.heap.size, 0, none⟩))
  all_goals go_wp2
  all_goals go_ret
  all_goals first | exact ⟨rfl, bel1 hb⟩ | exact ⟨rfl, bel2 hb _⟩

theorem decimal_any (n : Nat) (w : World) (hm : n ≤ 1000000000000) :
    Calls Tryd.prog 47 #[.int .i64 n] w fun e w' => e = .returned (.string ⟨(Lib.decDigits n).toArray⟩) ∧ Below w.heap.size w w' := by
  induction n using Nat.strongRecOn generalizing w with
  | ind n ih =>
    by_cases h : n < 10
    · exact decimal_small n w h
    · refine decimal_big n w h hm fun w => ?_
      have := ih (n / 10) (by omega) w (by omega)
      rwa [show ((n / 10 : Nat) : Int) = (n : Int) / 10 by omega] at this

theorem info5 : (Tryd.prog.info? 5).map (fun i => (i.zero, i.size, i.bytes)) = some (some (.int .u8 0), 1, 1) := by kernel_rfl
set_option maxHeartbeats 400000 in
theorem fraction_zero (w : World) :
    Calls Tryd.prog 46 #[.int .i64 0] w fun e w' => e = .returned (.string ⟨#[]⟩) ∧ w' = w := by
  go_enter Tryd.func46, Tryd.ntmps46
  go_wp2
  go_ret
  exact ⟨rfl, rfl⟩
set_option maxHeartbeats 400000 in
theorem fraction_pos (m : Nat) (w : World) (h0 : m ≠ 0) (h : m < 1000) :
    Calls Tryd.prog 46 #[.int .i64 m] w fun e w' => e = .returned (.string ⟨(frac m).toArray⟩) ∧ Below w.heap.size w w' := by
  obtain ⟨i0, hi, hz0, hz1, hz2⟩ := info_parts info5
  have hm0 : ((m : Int) == 0) = false := by simp; omega
  go_enter Tryd.func46, Tryd.ntmps46
  go_wp2
  go_loopw [0, 3, 7] (fun t v i wr => ∃ (n k : Nat) (d : List UInt8), Left m d (3 - k) n ∧ t = .int .i64 n ∧ i = .int .i64 k ∧ k ≤ 3 ∧ d.length = k ∧ wr.ownsRow w.heap.size 5 1 v (k + 1) ((46 :: d).map byteV) ∧ Below w.heap.size w wr) (fun _ _ i _ => 3 - (intOf i).toNat)
  case atStart => exact ⟨m, 0, [], left_start m h, rfl, rfl, by omega, rfl, World.ownsRow_lit w #[.int .u8 46] 1 (Nat.le_refl _) (by decide) rfl, (Below.refl _ _).alloc (Nat.le_refl _) _⟩
  case round =>
    obtain ⟨n, k, d, hL, rfl, rfl, hk, hd, hown, hb⟩ := hrel
    by_cases hgo : k < 3 ∧ n ≠ 0
    · obtain ⟨hk3, hn⟩ := hgo
      obtain ⟨g, hg, hL'⟩ := left_step hL hn
      have hn1 := hL.2.1
      have HL := hid hL'
      have hn0 : ((n : Int) == 0) = false := by simp; omega
      have HG := hid hg
      have HD := hid hd
      clear hL hL' hg hd
      go_wp2_with (at_builtin; refine wpList_append_own _ rfl (.tmp 13) (.tmp 18) 93 rfl w.heap.size 5 i0 (.int .u8 0) 1 1 Tryd.underlying93 hi hz0 hz1 hz2 rfl (by decide) _ _ _ rfl (hown.alloc _) ⟨wr.heap.size, 0, none⟩ 1 1 [byteV (dgt (n / 100))] rfl rfl ?c1 ?c2 ?c3 ?c4 ?c5 ?_)
      case c1 => intro j u hj; exact one_new (dig_cell hn1) j u hj
      case c2 => intro u hu; simp at hu; subst hu; rfl
      case c3 => unfold maxLen; omega
      case c4 => omega
      case c5 => have := hb.size; simp; omega
      · intro v' w1 hown' hgrow _
        have hb1 : Below w.heap.size w w1 := (hb.alloc hb.size _).grown hgrow (by have := hb.size; simp; omega) (fun q hq => (hown.lt q hq).1)
        clear hgrow hown
        go_wp2
        go_roundw
        case rel =>
          have e : 3 - (k + 1) = g := by have := HG.out; omega
          refine ⟨n % 100 * 10, k + 1, d ++ [dgt (n / 100)], by rw [e]; exact HL.out, by congr 1; omega, by go_num, by omega, by simp; exact HD.out, ?_, hb1⟩
          rw [List.map_cons, List.map_append, ← List.cons_append]
          exact hown'
        case measure => simp [intOf]; omega
    · have hn0 : n = 0 := by
        by_cases hk3 : k < 3
        · by_cases e : n = 0
          · exact e
          · exact absurd ⟨hk3, e⟩ hgo
        · exact hL.2.2.2.2.2.2 (by omega)
      subst hn0
      have he := left_end hL
      obtain ⟨g, c, hv, hcells⟩ := bytes_of_own hown (by omega)
      have hcv := conv_row (d := 46 :: d) (n := k + 1) (c := c) (by simp; omega) hcells
      have HE := hid he
      clear hgo hL hown hcells hd he
      rw [hv]
      clear hv
      by_cases hk3 : k < 3
      all_goals
        go_wp2
        go_ret
        exact ⟨ret_str (by rw [frac_pos h0, HE.out]), hb⟩

theorem add_lists {x y z : List UInt8} (hx : x.length ≤ 100) (hy : y.length ≤ 100) (hz : z = x ++ y) (w : World) : (Op.stringOp .add ⟨x.toArray⟩ ⟨y.toArray⟩).run Tryd.prog w = .ok (.string ⟨z.toArray⟩) w := by
  rw [hz]; exact run_string_add_lists w x y (by omega) (by omega)
def strLen : Value → Nat | .string b => b.size | _ => 0
theorem strLen_one (x : List UInt8) : strLen (.string ⟨x.toArray⟩) = x.length := by simp [strLen, ByteArray.size]
theorem strLen_cat (x y : List UInt8) : strLen (.string (⟨x.toArray⟩ ++ ⟨y.toArray⟩)) = x.length + y.length := by rw [ba_append, strLen_one, List.length_append]
theorem cat_eq {x y z : List UInt8} (h : x ++ y = z) : Value.string (⟨x.toArray⟩ ++ ⟨y.toArray⟩) = .string ⟨z.toArray⟩ := by rw [ba_append, h]
theorem dec_len' (n : Nat) (h : n ≤ 9223372036854775807) : (Lib.decDigits n).length ≤ 21 := by
  have := Lib.itoa_length_le n (by omega) (by omega)
  rwa [Lib.itoa_nonneg] at this
theorem left_len {m : Nat} {d : List UInt8} {f n : Nat} (h : Left m d f n) : d.length ≤ 3 := by have := h.2.2.2.1; omega
theorem frac_len (m : Nat) : (frac m).length ≤ 4 := by
  have hd : ∀ f n, (digs f n).length ≤ f := by
    intro f; induction f with
    | zero => intro n; simp [digs]
    | succ f ih => intro n; rw [digs]; split <;> simp; exact ih _
  unfold frac; split
  · simp
  · have := hd 3 m; simp; omega

set_option maxHeartbeats 400000 in
theorem fixText_whole (u : Nat) (w : World) (hu : u ≤ 1000000000) (h0 : u % 1000 = 0) :
    Calls Tryd.prog 15 #[.int .i64 u] w fun e w' => e = .returned (.string ⟨(Lib.decDigits (u / 1000) ++ frac (u % 1000)).toArray⟩) ∧ Below w.heap.size w w' := by
  have hf : frac (u % 1000) = [] := by rw [h0]; rfl
  rw [hf, List.append_nil]
  have hz : (u : Int) % 1000 = 0 := by omega
  have hd := fun w => decimal_any (u / 1000) w (by omega)
  rw [show ((u / 1000 : Nat) : Int) = (u : Int) / 1000 by omega] at hd
  clear hf h0
  go_enter Tryd.func15, Tryd.ntmps15
  go_wp2_with (go_at_call 47; refine (hd _).mono ?_; rintro e w' ⟨rfl, hb⟩)
  go_ret
  exact ⟨rfl, hb⟩

set_option maxHeartbeats 1000000 in
theorem fixText_part (u : Nat) (w : World) (hu : u ≤ 1000000000) (h0 : u % 1000 ≠ 0) :
    Calls Tryd.prog 15 #[.int .i64 u] w fun e w' => e = .returned (.string ⟨(Lib.decDigits (u / 1000) ++ frac (u % 1000)).toArray⟩) ∧ Below w.heap.size w w' := by
  have hz : ((u : Int) % 1000 == 0) = false := by simp; omega
  have hd := fun w => decimal_any (u / 1000) w (by omega)
  rw [show ((u / 1000 : Nat) : Int) = (u : Int) / 1000 by omega] at hd
  have hl := dec_len' (u / 1000) (by omega)
  have ha := add_lists (x := Lib.decDigits (u / 1000)) (y := [46]) (z := Lib.decDigits (u / 1000) ++ [46]) (by omega) (by simp) rfl
  go_enter Tryd.func15, Tryd.ntmps15
  go_wp2_with (go_at_call 47; refine (hd _).mono ?_; rintro e w' ⟨rfl, hb⟩)
  clear ha hd
  go_loopw [0, 3] (fun t v wr => ∃ (n f : Nat) (d : List UInt8), Left (u % 1000) d f n ∧ t = .int .i64 n ∧ v = .string ⟨(Lib.decDigits (u / 1000) ++ [46] ++ d).toArray⟩ ∧ Below w.heap.size w wr) (fun _ v _ => (Lib.decDigits (u / 1000)).length + 4 - strLen v)
  case atStart => exact ⟨u % 1000, 3, [], left_start _ (by omega), by congr 1, by simp, hb⟩
  case round =>
    obtain ⟨n, f, d, hL, rfl, rfl, hbr⟩ := hrel
    by_cases hn : n = 0
    · subst hn
      have HE := hid (left_end hL)
      clear hL
      go_wp2
      go_ret
      exact ⟨ret_str (by rw [frac_pos h0, HE.out]; simp), hbr⟩
    · obtain ⟨g, hg, hL'⟩ := left_step hL hn
      have hn1 := hL.2.1
      have hdl := left_len hL
      have HL := hid hL'
      have HL2 := hid (left_len hL')
      have hpos : (0 : Int) < n := by omega
      have hdd := fun w => decimal_small (n / 100) w (by omega)
      rw [show ((n / 100 : Nat) : Int) = (n : Int) / 100 by omega, show Lib.decDigits (n / 100) = [dgt (n / 100)] from Lib.decDigits_one (by omega)] at hdd
      have ha := add_lists (x := Lib.decDigits (u / 1000) ++ [46] ++ d) (y := [dgt (n / 100)]) (z := Lib.decDigits (u / 1000) ++ [46] ++ (d ++ [dgt (n / 100)])) (by simp; omega) (by simp) (by simp)
      clear hL hL' hg
      go_wp2_with (go_at_call 47; refine (hdd _).mono ?_; rintro e w' ⟨rfl, hb2⟩)
      go_roundw
      case rel => exact ⟨n % 100 * 10, g, d ++ [dgt (n / 100)], HL.out, by congr 1, cat_eq (by simp), hbr.trans (hb2.mono hbr.size)⟩
      case measure =>
        have h3 := HL2.out
        simp only [List.length_append, List.length_cons, List.length_nil] at h3
        simp only [strLen_cat, strLen_one, List.length_append, List.length_cons, List.length_nil]
        omega
end Go.Proofs.YtidillbpoklnjaaDoor

/-
  Contracts: the text of any number, of the program and of the document's answer: the same.
-/
namespace Go.Proofs.YtidillbpoklnjaaDoor
open Go.RowKit
set_option maxRecDepth 100000

theorem fixText_nonneg (u : Nat) (w : World) (hu : u ≤ 1000000000) :
    Calls Tryd.prog 15 #[.int .i64 u] w fun e w' => e = .returned (.string ⟨(Lib.decDigits (u / 1000) ++ frac (u % 1000)).toArray⟩) ∧ Below w.heap.size w w' := by
  by_cases h : u % 1000 = 0
  · exact fixText_whole u w hu h
  · exact fixText_part u w hu h
theorem fixTxt_nonneg (u : Nat) : fixTxt (u : Int) = Lib.decDigits (u / 1000) ++ frac (u % 1000) := by
  unfold fixTxt; rw [if_neg (by omega)]; simp
theorem fixTxt_neg (u : Nat) (h : 1 ≤ u) : fixTxt (-(u : Int)) = 45 :: (Lib.decDigits (u / 1000) ++ frac (u % 1000)) := by
  unfold fixTxt; rw [if_pos (by omega)]; simp
theorem body_len (u : Nat) (h : u ≤ 1000000000) : (Lib.decDigits (u / 1000) ++ frac (u % 1000)).length ≤ 30 := by
  have h1 := dec_len' (u / 1000) (by omega)
  have h2 := frac_len (u % 1000)
  rw [List.length_append]; omega

set_option maxHeartbeats 400000 in
theorem fixText_neg (u : Nat) (w : World) (hu : u ≤ 1000000000) (h1 : 1 ≤ u) :
    Calls Tryd.prog 15 #[.int .i64 (-(u : Int))] w fun e w' => e = .returned (.string ⟨(45 :: (Lib.decDigits (u / 1000) ++ frac (u % 1000))).toArray⟩) ∧ Below w.heap.size w w' := by
  have hd := fun w => fixText_nonneg u w hu
  have hl := body_len u hu
  generalize hg : Lib.decDigits (u / 1000) ++ frac (u % 1000) = l at *
  have hneg : -(u : Int) < 0 := by omega
  go_enter Tryd.func15, Tryd.ntmps15
  go_wp2_with (go_at_call 15; refine (hd _).mono ?_; rintro e w' ⟨rfl, hb⟩)
  go_ret
  exact ⟨ret_str (ba_append [45] l), hb⟩

theorem fixText_any (n : Int) (w : World) (h : okF n = true) :
    Calls Tryd.prog 15 #[.int .i64 n] w fun e w' => e = .returned (.string ⟨(fixTxt n).toArray⟩) ∧ Below w.heap.size w w' := by
  have h' := okF_iff.1 h
  by_cases hn : 0 ≤ n
  · obtain ⟨u, rfl⟩ : ∃ u : Nat, n = u := ⟨n.toNat, by omega⟩
    rw [fixTxt_nonneg]; exact fixText_nonneg u w (by omega)
  · obtain ⟨u, rfl⟩ : ∃ u : Nat, n = -(u : Int) := ⟨n.natAbs, by omega⟩
    rw [fixTxt_neg u (by omega)]; exact fixText_neg u w (by omega) (by omega)

theorem below_grow (w : World) (k : Nat) (os : Array Obj) : Below w.heap.size w (Sort.grow (w.drewN k) os) :=
  ⟨rfl, rfl, rfl, by simp [Sort.grow, World.drewN], fun i hi => by simp [Sort.grow, World.drewN, Array.getElem?_append, hi]⟩
theorem fraction_any (m : Nat) (w : World) (h : m < 1000) :
    Calls Tryd.prog 46 #[.int .i64 m] w fun e w' => e = .returned (.string ⟨(frac m).toArray⟩) ∧ Below w.heap.size w w' := by
  by_cases h0 : m = 0
  · subst h0
    refine (fraction_zero w).mono ?_
    rintro e w' ⟨rfl, rfl⟩
    exact ⟨rfl, Below.refl _ _⟩
  · exact fraction_pos m w h0 h

theorem ret2_str {a b : ByteArray} {v : Value} (h : a = b) : Ending.returned (.tuple #[.string a, v]) = .returned (.tuple #[.string b, v]) := by rw [h]
theorem cat3 (a b c : List UInt8) : (⟨a.toArray⟩ ++ ⟨b.toArray⟩ ++ ⟨c.toArray⟩ : ByteArray) = ⟨(a ++ (b ++ c)).toArray⟩ := by rw [ba_append, ba_append, List.append_assoc]
abbrev Tab (w : World) : Prop := Lib.TabIs Tryd.prog w "internal/strconv.uint64pow10" .u64 Lib.pow10Tab

set_option maxHeartbeats 400000 in
theorem text_nonneg (u : Nat) (w : World) (htab : Tab w) (hu : u ≤ 1000000000) :
    Calls Tryd.prog 13 #[.int .i64 u] w fun e w' => e = .returned (.tuple #[.string ⟨(Lib.decDigits (u / 1000) ++ frac (u % 1000)).toArray⟩, .nilIface]) ∧ Below w.heap.size w w' := by
  have hc := fun w => check_ok (u : Int) w (by omega) (by omega)
  have hi := Tryd.strconv_Itoa ((u / 1000 : Nat) : Int) (by omega) (by omega) w htab
  rw [Lib.itoa_nonneg, show ((u / 1000 : Nat) : Int) = (u : Int) / 1000 by omega] at hi
  have hf := fun w => fraction_any (u % 1000) w (by omega)
  rw [show ((u % 1000 : Nat) : Int) = (u : Int) % 1000 by omega] at hf
  have l1 := dec_len' (u / 1000) (by omega)
  have l2 := frac_len (u % 1000)
  generalize Lib.decDigits (u / 1000) = x at *
  generalize frac (u % 1000) = y at *
  go_enter Tryd.func13, Tryd.ntmps13
  go_wp2_with (first
    | (go_at_call 14; refine (hc _).mono ?_; rintro e w' ⟨rfl, rfl⟩)
    | (go_at_call 45; refine hi.mono ?_; rintro e w' ⟨rfl, k, os, hw1⟩)
    | (go_at_call 46; refine (hf _).mono ?_; rintro e w' ⟨rfl, hb⟩))
  go_ret2
  exact ⟨ret2_str (cat3 [] x y), (below_grow _ k os).trans (hb.mono (below_grow _ k os).size)⟩

set_option maxHeartbeats 400000 in
theorem text_neg (u : Nat) (w : World) (htab : Tab w) (hu : u ≤ 1000000000) (h1 : 1 ≤ u) :
    Calls Tryd.prog 13 #[.int .i64 (-(u : Int))] w fun e w' => e = .returned (.tuple #[.string ⟨(45 :: (Lib.decDigits (u / 1000) ++ frac (u % 1000))).toArray⟩, .nilIface]) ∧ Below w.heap.size w w' := by
  have hc := fun w => check_ok (-(u : Int)) w (by omega) (by omega)
  have hi := Tryd.strconv_Itoa ((u / 1000 : Nat) : Int) (by omega) (by omega) w htab
  rw [Lib.itoa_nonneg, show ((u / 1000 : Nat) : Int) = (u : Int) / 1000 by omega] at hi
  have hf := fun w => fraction_any (u % 1000) w (by omega)
  rw [show ((u % 1000 : Nat) : Int) = (u : Int) % 1000 by omega] at hf
  have l1 := dec_len' (u / 1000) (by omega)
  have l2 := frac_len (u % 1000)
  generalize Lib.decDigits (u / 1000) = x at *
  generalize frac (u % 1000) = y at *
  have hneg : -(u : Int) < 0 := by omega
  go_enter Tryd.func13, Tryd.ntmps13
  go_wp2_with (first
    | (go_at_call 14; refine (hc _).mono ?_; rintro e w' ⟨rfl, rfl⟩)
    | (go_at_call 45; refine hi.mono ?_; rintro e w' ⟨rfl, k, os, hw1⟩)
    | (go_at_call 46; refine (hf _).mono ?_; rintro e w' ⟨rfl, hb⟩))
  go_ret2
  exact ⟨ret2_str (cat3 [45] x y), (below_grow _ k os).trans (hb.mono (below_grow _ k os).size)⟩

theorem text_ok (n : Int) (w : World) (htab : Tab w) (h : okF n = true) :
    Calls Tryd.prog 13 #[.int .i64 n] w fun e w' => e = .returned (.tuple #[.string ⟨(fixTxt n).toArray⟩, .nilIface]) ∧ Below w.heap.size w w' := by
  have h' := okF_iff.1 h
  by_cases hn : 0 ≤ n
  · obtain ⟨u, rfl⟩ : ∃ u : Nat, n = u := ⟨n.toNat, by omega⟩
    rw [fixTxt_nonneg]; exact text_nonneg u w htab (by omega)
  · obtain ⟨u, rfl⟩ : ∃ u : Nat, n = -(u : Int) := ⟨n.natAbs, by omega⟩
    rw [fixTxt_neg u (by omega)]; exact text_neg u w htab (by omega) (by omega)

set_option maxHeartbeats 400000 in
theorem text_bad (n : Int) (w : World) (h : okF n = false) :
    Calls Tryd.prog 13 #[.int .i64 n] w fun e w' => e = .returned (.tuple #[.string ⟨#[]⟩, errV 1]) ∧ w' = w := by
  have hc : ∀ w, Calls Tryd.prog 14 #[.int .i64 n] w fun e w' => e = .returned (.iface 23 (.int .i64 1)) ∧ w' = w := fun w => by have := check_any n w; rwa [flt_bad h, errN_1] at this
  go_enter Tryd.func13, Tryd.ntmps13
  go_wp2_with (go_at_call 14; refine (hc _).mono ?_; rintro e w' ⟨rfl, rfl⟩)
  go_ret2
  exact ⟨rfl, rfl⟩
end Go.Proofs.YtidillbpoklnjaaDoor
