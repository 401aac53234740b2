/-
  Joined: Gk, Je, Jf.
-/
import Derived.Test.YtobpidmlgldnmaaGreatDoorOc
import Derived.Test.YtobpidmlgldnmaaGreatDoorMb
import Derived.Test.YtobpidmlgldnmaaGreatDoorJd

/-
  The law on the signs of strings behind each other, walked.
-/
namespace Go.Proofs.YtobpidmlgldnmaaGreatDoor
open Go.RowKit Go.Maps
set_option maxRecDepth 100000
attribute [local go_sem ↓] Go.wp_at_zero Go.wp_at_succ

theorem sgL_app (F : Ft) (x y : List UInt8) (h : F.wide = false ∨ ∃ m, x.length = 2 * m) : sgL F (x ++ y) = sgL F x ++ sgL F y := by
  unfold sgL
  rcases h with h | ⟨m, h⟩
  · rw [h]; simp [cdL]
  · cases hw : F.wide with
    | false => simp [cdL]
    | true => rw [cdL_two m x y h, List.map_append]
end Go.Proofs.YtobpidmlgldnmaaGreatDoor

/-
  A string is shown as its parts are: plainly; glyphs are held against each other.
-/
namespace Go.Proofs.YtobpidmlgldnmaaGreatDoor
open Go.RowKit
set_option maxRecDepth 100000

theorem signs_app : ∀ (l k : List Sp) (p : PS), signsX p (l ++ k) = (signsX p l).bind fun q => signsX q k
  | [], k, p => rfl
  | g :: l, k, p => by
    show (signX p g).bind _ = ((signX p g).bind _).bind _
    cases signX p g with
    | error e => rfl
    | ok q => exact signs_app l k q
theorem steps_app (sg : FnC → ByteArray → Ex (List Sp)) (ff : ByteArray → Option FnC) : ∀ (l k : List OpP) (p : PS), stepsX sg ff p (l ++ k) = (stepsX sg ff p l).bind fun q => stepsX sg ff q k
  | [], k, p => rfl
  | o :: l, k, p => by
    show (stepX sg ff p o.1 o.2).bind _ = ((stepX sg ff p o.1 o.2).bind _).bind _
    cases stepX sg ff p o.1 o.2 with
    | error e => rfl
    | ok q => exact steps_app sg ff l k q
theorem bind_ok {α : Type} (r : Ex α) : (r.bind fun a => .ok a) = r := by cases r <;> rfl
def sgF (F : Ft) (_ : FnC) (u : ByteArray) : Ex (List Sp) := sgR F u
/-- A string is shown as its parts are. -/
theorem show_app (F : Ft) (p : PS) (s t : ByteArray) (h : F.wide = false ∨ (s.size % 2 = 0 ∧ t.size % 2 = 0)) : showX (sgF F) p (s ++ t) = (showX (sgF F) p s).bind fun q => showX (sgF F) q t := by
  have hz : (s ++ t).size = s.size + t.size := ByteArray.size_append
  have e0 : ∀ x, sgF F x (s ++ t) = .ok (sgL F s.data.toList ++ sgL F t.data.toList) := by
    intro x
    unfold sgF sgR
    rw [if_neg (fun q => by
      rcases h with h | h
      · rw [h] at q; exact absurd q.1 (by simp)
      · omega)]
    rw [show (s ++ t).data.toList = s.data.toList ++ t.data.toList by simp, sgL_app F _ _ (by
      rcases h with h | h
      · exact .inl h
      · exact .inr ⟨s.size / 2, by have : s.data.toList.length = s.size := by simp
                                   omega⟩)]
  have e1 : ∀ x, sgF F x s = .ok (sgL F s.data.toList) := by
    intro x
    unfold sgF sgR
    rw [if_neg (fun q => by
      rcases h with h | h
      · rw [h] at q; exact absurd q.1 (by simp)
      · omega)]
  have e2 : ∀ x, sgF F x t = .ok (sgL F t.data.toList) := by
    intro x
    unfold sgF sgR
    rw [if_neg (fun q => by
      rcases h with h | h
      · rw [h] at q; exact absurd q.1 (by simp)
      · omega)]
  unfold showX
  by_cases hh : p.now.has = true ∧ p.inn = true
  · rw [if_pos hh, if_pos hh, e0, e1]
    show signsX p _ = (signsX p _).bind _
    rw [signs_app]
    cases hq : signsX p (sgL F s.data.toList) with
    | error k => rfl
    | ok q =>
      have hs := signs_same _ hq
      show signsX q _ = if _ then _ else _
      rw [if_pos (by rw [hs.1, hs.2.1]; exact hh), e2]
      rfl
  · rw [if_neg hh, if_neg hh]; rfl
def nTc : ByteArray := ⟨#[84, 99]⟩
def nTz : ByteArray := ⟨#[84, 122]⟩
def nTJ : ByteArray := ⟨#[84, 74]⟩
def hd4 (n c z : Int) : List OpP := [(nBT, []), (nTf, [V0 4 0 qF, V0 2 n eB]), (nTc, [V0 2 c eB]), (nTz, [V0 2 z eB])]
def sopA (s t : ByteArray) : List OpP := [(nTj, [V0 3 0 (s ++ t)])]
def sopB (s t : ByteArray) : List OpP := [(nTj, [V0 3 0 s]), (nTj, [V0 3 0 t])]
def sopC (s t : ByteArray) : List OpP := [(nTJ, [⟨5, 0, eB, [V0 3 0 s, V0 3 0 t], []⟩])]
theorem split_plain (F : Ft) (ff : ByteArray → Option FnC) (n c z : Int) (s t : ByteArray) (h : F.wide = false ∨ (s.size % 2 = 0 ∧ t.size % 2 = 0)) :
    pageR (sgF F) ff (hd4 n c z ++ sopA s t) = pageR (sgF F) ff (hd4 n c z ++ sopB s t) ∧ pageR (sgF F) ff (hd4 n c z ++ sopA s t) = pageR (sgF F) ff (hd4 n c z ++ sopC s t) := by
  unfold pageR
  rw [if_neg (by simp [hd4, sopA]), if_neg (by simp [hd4, sopB]), if_neg (by simp [hd4, sopC]), steps_app, steps_app, steps_app]
  cases hp : stepsX (sgF F) ff ps0 (hd4 n c z) with
  | error k => exact ⟨rfl, rfl⟩
  | ok p =>
    have ha : stepsX (sgF F) ff p (sopA s t) = showX (sgF F) p (s ++ t) := by
      unfold sopA nTj
      simp only [stepsX]
      rw [stepX_Tj, bind_ok]
      rfl
    have hb : stepsX (sgF F) ff p (sopB s t) = (showX (sgF F) p s).bind fun q => showX (sgF F) q t := by
      unfold sopB nTj
      simp only [stepsX, stepX_Tj]
      show ((showX (sgF F) p s).bind _) = _
      cases showX (sgF F) p s with
      | error k => rfl
      | ok q =>
        show ((showX (sgF F) q t).bind _) = _
        rw [bind_ok]
        rfl
    have hc : stepsX (sgF F) ff p (sopC s t) = (showX (sgF F) p s).bind fun q => showX (sgF F) q t := by
      unfold sopC nTJ
      simp only [stepsX, stepX_TJ]
      rw [bind_ok]
      show prtsX (sgF F) p [V0 3 0 s, V0 3 0 t] = _
      show ((showX (sgF F) p s).bind _) = _
      cases showX (sgF F) p s with
      | error k => rfl
      | ok q =>
        show ((showX (sgF F) q t).bind _) = _
        rw [show (fun p => prtsX (sgF F) p []) = (fun p => (Except.ok p : Ex PS)) from rfl, bind_ok]
        rfl
    constructor
    · show stepsX _ _ _ _ = stepsX _ _ _ _
      rw [ha, hb, show_app F p s t h]
    · show stepsX _ _ _ _ = stepsX _ _ _ _
      rw [ha, hc, show_app F p s t h]
/-- Glyphs in memory. -/
def GlAt (w : World) (al : Option Addr) (l : List Gl) : Prop := ∀ i x, l[i]? = some x → ∃ b off, al = some ⟨b, off, none⟩ ∧ b < w.heap.size ∧ CellsAt w b (off + i * 10) x.cs
theorem GlAt.later {w w' : World} {al : Option Addr} {l : List Gl} (h : GlAt w al l) (hB : Below w.heap.size w w') : GlAt w' al l := fun i x hx => by
  obtain ⟨b, off, h1, h2, h3⟩ := h i x hx
  exact ⟨b, off, h1, Nat.lt_of_lt_of_le h2 hB.size, h3.later h2 hB⟩
theorem flatG_at : ∀ (l : List Gl) (i : Nat) (x : Gl), l[i]? = some x → ∀ j u, x.cs[j]? = some u → (flatG l)[i * 10 + j]? = some u
  | [], i, x, h, j, u, _ => by simp at h
  | y :: l, 0, x, h, j, u, hu => by
    simp at h; subst h
    have e : flatG (y :: l) = y.cs ++ flatG l := by simp [flatG]
    rw [e, Nat.zero_mul, Nat.zero_add, List.getElem?_append_left (List.getElem?_eq_some_iff.1 hu).1]
    exact hu
  | y :: l, i + 1, x, h, j, u, hu => by
    have q := flatG_at l i x (by simpa using h) j u hu
    have e : flatG (y :: l) = y.cs ++ flatG l := by simp [flatG]
    have hl : y.cs.length = 10 := rfl
    rw [e, List.getElem?_append_right (by rw [hl]; omega), hl, show (i + 1) * 10 + j - 10 = i * 10 + j by omega]
    exact q
theorem own_gl {w : World} {B : Nat} {v : Value} {l : List Gl} (h : w.ownsRow B 48 10 v l.length (flatG l)) : ∃ al c, v = .slice al l.length c ∧ GlAt w al l := by
  have hc := fun g => World.ownsRow.cells h (g := g)
  obtain ⟨_, ⟨rfl, h2⟩ | ⟨g, cap, cur, rfl, h2, h3, h4, _⟩⟩ := h
  · obtain rfl := List.eq_nil_of_length_eq_zero h2
    exact ⟨none, 0, rfl, fun i x hx => by simp at hx⟩
  · refine ⟨_, cap, rfl, fun i x hx => ⟨g, 0, rfl, (Array.getElem?_eq_some_iff.1 h3).1, fun j u hu => ?_⟩⟩
    have k := hc g rfl _ _ (flatG_at l i x hx j u hu)
    rw [Lib.add_plain, Nat.zero_add] at k
    rw [Nat.zero_add]; exact k
set_option maxHeartbeats 4000000 in
theorem same_glyphs (l : List Gl) (a1 a2 : Option Addr) (c1 c2 : Nat) (w : World) (hl : l.length ≤ 100000) (h1 : GlAt w a1 l) (h2 : GlAt w a2 l) :
    Calls Tryz.prog 14 #[.slice a1 l.length c1, .slice a2 l.length c2] w fun e w' => e = .returned (.bool true) ∧ Below w.heap.size w w' := by
  have H1 := hid h1
  have H2 := hid h2
  clear h1 h2
  go_enter Tryz.func14, Tryz.ntmps14
  go_wp2_with fail
  go_loopw [5] (fun i wr => ∃ p : Nat, i = .int .i64 p ∧ p ≤ l.length ∧ Below w.heap.size w wr) (fun i _ => l.length - (intOf i).toNat)
  case atStart => exact ⟨0, rfl, Nat.zero_le _, Below.refl _ _⟩
  case round =>
    obtain ⟨p, rfl, hp, hB⟩ := hrel
    by_cases hpl : p < l.length
    · have hpl' : (p : Int) < l.length := by omega
      obtain ⟨b, off, rfl, hbl, g⟩ := (H1.out.later hB) p l[p] (List.getElem?_eq_getElem hpl)
      obtain ⟨b', off', rfl, hbl', k⟩ := (H2.out.later hB) p l[p] (List.getElem?_eq_getElem hpl)
      generalize l[p] = x at *
      have g0 := g 0 _ rfl
      have g1 := g 1 _ rfl
      have g2 := g 2 _ rfl
      have g3 := g 3 _ rfl
      have g4 := g 4 _ rfl
      have g5 := g 5 _ rfl
      have g6 := g 6 _ rfl
      have g7 := g 7 _ rfl
      have g8 := g 8 _ rfl
      have g9 := g 9 _ rfl
      have k0 := k 0 _ rfl
      have k1 := k 1 _ rfl
      have k2 := k 2 _ rfl
      have k3 := k 3 _ rfl
      have k4 := k 4 _ rfl
      have k5 := k 5 _ rfl
      have k6 := k 6 _ rfl
      have k7 := k 7 _ rfl
      have k8 := k 8 _ rfl
      have k9 := k 9 _ rfl
      simp only [Nat.add_zero] at g0 k0
      clear g k
      go_wp2_with fail
      go_region
      all_goals
        go_wp2_with fail
        go_roundw
        case rel => exact ⟨p + 1, by go_num, by omega, by first | exact hB | exact hB.drew⟩
        case measure => simp [intOf]; omega
    · have hpl' : ¬ (p : Int) < l.length := by omega
      go_wp2_with fail
      go_ret
      exact ⟨rfl, hB⟩
theorem numb_nil (w : World) : Calls Tryz.prog 12 #[.nilIface] w fun e w' => e = .returned (.int .i64 0) ∧ w' = w := by
  go_enter Tryz.func12, Tryz.ntmps12
  go_wp2
  go_ret
  exact ⟨rfl, rfl⟩
theorem numb_err (k : Int) (w : World) : Calls Tryz.prog 12 #[.iface 68 (.int .i64 k)] w fun e w' => e = .returned (.int .i64 k) ∧ w' = w := by
  have ha := assertErr
  go_enter Tryz.func12, Tryz.ntmps12
  go_wp2
  go_ret
  exact ⟨rfl, rfl⟩
end Go.Proofs.YtobpidmlgldnmaaGreatDoor

/-
  A string is shown as its parts are: what the law calls.
-/
namespace Go.Proofs.YtobpidmlgldnmaaGreatDoor
open Go.RowKit
set_option maxRecDepth 100000

theorem numV_says (n : Int) (w : World) : Calls Tryz.prog 15 #[.int .i64 n] w fun e w' => e = .returned (.agg #[.int .i64 2, .int .i64 n, .string ⟨#[]⟩, .slice none 0 0, .slice none 0 0]) ∧ Below w.heap.size w w' := by
  go_enter Tryz.func15, Tryz.ntmps15
  go_wp2
  refine bodyPost_ret (v := .agg #[.int .i64 2, .int .i64 n, .string ⟨#[]⟩, .slice none 0 0, .slice none 0 0]) (by simp [results, Tryz.results15, go_sem]) rfl ⟨rfl, by go_grown⟩
theorem strV_says (s : ByteArray) (w : World) : Calls Tryz.prog 16 #[.string s] w fun e w' => e = .returned (.agg #[.int .i64 3, .int .i64 0, .string s, .slice none 0 0, .slice none 0 0]) ∧ Below w.heap.size w w' := by
  go_enter Tryz.func16, Tryz.ntmps16
  go_wp2
  refine bodyPost_ret (v := .agg #[.int .i64 3, .int .i64 0, .string s, .slice none 0 0, .slice none 0 0]) (by simp [results, Tryz.results16, go_sem]) rfl ⟨rfl, by go_grown⟩
/-- Numbers in memory. -/
def IsAt (w : World) (t : Value) (l : List Int) : Prop := ∃ a c, t = .slice a l.length c ∧ ∀ (i : Nat) z, l[i]? = some z → ∃ b off, a = some ⟨b, off, none⟩ ∧ b < w.heap.size ∧ w.cell? ⟨b, off + i, none⟩ = some (.int .i64 z)
set_option maxHeartbeats 1000000 in
theorem small_says (l : List Int) (t : Value) (w : World) (hl : l.length ≤ 1000) (hI : IsAt w t l) : Calls Tryz.prog 9 #[t] w fun e w' => (e = .returned (.bool false) ∨ e = .returned (.bool true)) ∧ Below w.heap.size w w' := by
  obtain ⟨a, c, rfl, hx⟩ := hI
  have HX := hid hx
  clear hx
  go_enter Tryz.func9, Tryz.ntmps9
  go_wp2_with fail
  go_loopw [3] (fun i wr => ∃ p : Nat, i = .int .i64 p ∧ p ≤ l.length ∧ Below w.heap.size w wr) (fun i _ => l.length - (intOf i).toNat)
  case atStart => exact ⟨0, rfl, Nat.zero_le _, Below.refl _ _⟩
  case round =>
    obtain ⟨p, rfl, hp, hB⟩ := hrel
    by_cases hpl : p < l.length
    · have hpl' : (p : Int) < l.length := by omega
      obtain ⟨b, off, rfl, hbl, g⟩ := HX.out p l[p] (List.getElem?_eq_getElem hpl)
      have g := (hB.cell (p := ⟨b, off + p, none⟩) hbl).trans g
      have hb2 := Nat.lt_of_lt_of_le hbl hB.size
      generalize l[p] = z at *
      by_cases h1 : z < -1000000
      · go_wp2_with fail
        go_ret
        exact ⟨.inl rfl, hB⟩
      · by_cases h2 : (1000000 : Int) < z
        · go_wp2_with fail
          go_ret
          exact ⟨.inl rfl, hB⟩
        · go_wp2_with fail
          go_roundw
          case rel => exact ⟨p + 1, by go_num, by omega, hB⟩
          case measure => simp [intOf]; omega
    · have hpl' : ¬ (p : Int) < l.length := by omega
      go_wp2_with fail
      go_ret
      exact ⟨.inr rfl, hB⟩
set_option maxHeartbeats 4000000 in
theorem tail_says (hb lb Hp k : Nat) (hc lc : List Value) (w : World) (hH : At w Hp 22 #[.slice (some ⟨hb, 0, none⟩) 4 4]) (h8 : hc.length = 8) (hk : lc.length = k * 2) (hk9 : k ≤ 10) (c1 : ∀ (j : Nat) u, hc[j]? = some u → w.cell? ⟨hb, j, none⟩ = some u) (c2 : ∀ (j : Nat) u, lc[j]? = some u → w.cell? ⟨lb, j, none⟩ = some u) (_hb1 : hb < w.heap.size) (lb1 : lb < w.heap.size) (o1 : ∀ u ∈ hc, u.oneCell' = true) (o2 : ∀ u ∈ lc, u.oneCell' = true) :
    Calls Tryz.prog 17 #[.slice (some ⟨lb, 0, none⟩) k k, .pointer (some ⟨Hp, 0, none⟩)] w fun e w' => (∃ v, e = .returned v ∧ w'.ownsRow w.heap.size 41 2 v (4 + k) (hc ++ lc)) ∧ Below w.heap.size w w' := by
  have m0 := hH.cell 0
  simp at m0
  have zH := hH.lt
  obtain ⟨iV, hiV, hv0, hv1, hv2⟩ := info_parts infoOp
  go_enter Tryz.func17, Tryz.ntmps17
  have HC := hid (And.intro c1 (And.intro c2 (And.intro o1 o2)))
  clear c1 c2 o1 o2
  go_wp2_with (first
    | (at_builtin; refine wpList_append_own_at (P := Tryz.prog) _ rfl _ _ _ rfl w.heap.size _ iV _ 2 40 Tryz.underlying22 hiV hv0 hv1 hv2 rfl (by decide) _ _ _ rfl O1 ⟨lb, 0, none⟩ k k lc rfl hk (fun j u hj => by rw [Lib.add_plain, Nat.zero_add, g1.cell (p := ⟨lb, j, none⟩) lb1]; exact HC.out.2.1 j u hj) HC.out.2.2.2 (by unfold maxLen; omega) (by omega) g1.size ?_; intro v2 w2 O2 g2 _ _)
    | (at_builtin; go_loud (refine wpList_append_own_at (P := Tryz.prog) _ rfl _ _ _ rfl w.heap.size _ iV _ 2 40 Tryz.underlying22 hiV hv0 hv1 hv2 rfl (by decide) (.slice none 0 0) 0 [] rfl (World.ownsRow_nil _ _ _ _) ⟨hb, 0, none⟩ 4 4 hc rfl h8 (fun j u hj => by rw [Lib.add_plain, Nat.zero_add]; exact HC.out.1 j u hj) HC.out.2.2.1 (by unfold maxLen; omega) (by omega) (Nat.le_refl _) ?_); intro v1 w1 O1 g1 _ _; (have g1 : Below w.heap.size w w1 := (Below.refl _ _).grown g1 (Nat.le_refl _) (fun k hk => by simp [Value.ownBlock] at hk))))
  go_ret
  exact ⟨⟨v2, rfl, by simpa using O2⟩, g1.grown g2 g1.size (fun j hj => (O1.lt j hj).1)⟩
end Go.Proofs.YtobpidmlgldnmaaGreatDoor
