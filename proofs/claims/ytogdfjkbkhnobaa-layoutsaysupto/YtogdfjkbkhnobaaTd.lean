/-
  A page's text, as the answer lays it, plainly; rows side by side; numbers; two lists that are the same.
-/
import Derived.Test.YtogdfjkbkhnobaaTc
import Derived.Test.YtogdfjkbkhnobaaTa
namespace Go.Proofs.Ytogdfjkbkhnobaa
open Go.Shelf Go.RowKit Go.Lib Go.Sort
set_option maxRecDepth 1000000

/-- The first k glyphs of a line. -/
def lnR (L : List Gy) (n : Nat) (r : List Int) : Nat → List (Int × Int × Int)
  | 0 => []
  | k + 1 => lnR L n r k ++ ((if decide (0 < k) && newW L r k then [(32, -1, (n : Int))] else []) ++ sgG L (r[k]?.getD 0) n)
theorem lnT_front (L : List Gy) (n : Nat) (X Y : List (List Int)) : ∀ k, k ≤ X.length → lnT L n (X ++ Y) k = lnT L n X k
  | 0, _ => rfl
  | k + 1, h => by
    rw [lnT, lnT, lnT_front L n X Y k (by omega), List.getElem?_append_left (by omega)]
theorem lnT_snoc (L : List Gy) (n : Nat) (X : List (List Int)) (y : List Int) : lnT L n (X ++ [y]) (X ++ [y]).length = lnT L n X X.length ++ ((if X.length = 0 then [] else [(32, -1, (n : Int))]) ++ wdT L n y) := by
  rw [show (X ++ [y]).length = X.length + 1 by simp, lnT, lnT_front L n X [y] _ (Nat.le_refl _)]
  simp
theorem wdT_snoc (L : List Gy) (n : Int) (y : List Int) (z : Int) : wdT L n (y ++ [z]) = wdT L n y ++ sgG L z n := by
  unfold wdT
  rw [List.flatMap_append]
  simp
theorem lnR_eq (L : List Gy) (n : Nat) (r : List Int) : ∀ p, p ≤ r.length → lnR L n r p = lnT L n (wdsP L r p) (wdsP L r p).length
  | 0, _ => by simp [lnR, wdsP, lnT]
  | p + 1, hp => by
    have ih := lnR_eq L n r p (by omega)
    rw [lnR, ih, wdsP]
    by_cases hn : newW L r p = true
    · rw [if_pos hn, pushR_snoc, lnT_snoc]
      congr 1
      have e : wdT L n ([] ++ [r[p]?.getD 0]) = sgG L (r[p]?.getD 0) n := by rw [wdT_snoc]; rfl
      rw [e]
      congr 1
      by_cases h0 : p = 0
      · subst h0; rfl
      · have := wdsP_pos L r p (by omega)
        rw [if_pos (by rw [hn, decide_eq_true (show 0 < p by omega)]; rfl), if_neg (by omega)]
    · have hp0 : p ≠ 0 := fun e => by subst e; exact hn rfl
      have hne : wdsP L r p ≠ [] := fun e => by have := wdsP_pos L r p (by omega); rw [e] at this; simp at this
      obtain ⟨X, y, e⟩ : ∃ X y, wdsP L r p = X ++ [y] := ⟨_, _, (List.dropLast_concat_getLast hne).symm⟩
      have hn' : newW L r p = false := by cases h : newW L r p; rfl; exact absurd h hn
      rw [if_neg hn, e, pushR_snoc, lnT_snoc, lnT_snoc, wdT_snoc, hn']
      simp
/-- The first lines. -/
def txR (L : List Gy) (R : List (List Int)) : Nat → List (Int × Int × Int)
  | 0 => []
  | n + 1 => txR L R n ++ ((if n = 0 then [] else [(10, -1, (n : Int) - 1)]) ++ lnR L n (R[n]?.getD []) (R[n]?.getD []).length)
theorem txR_eq (L : List Gy) (R : List (List Int)) : ∀ n, txR L R n = txT L (wdsR L R) n
  | 0 => rfl
  | n + 1 => by
    rw [txR, txT, txR_eq L R n, lnR_eq L n _ _ (Nat.le_refl _)]
    unfold wdsR
    rw [List.getElem?_map]
    cases R[n]? <;> rfl
theorem txR_all (L : List Gy) (R : List (List Int)) : txR L R R.length = txL L R := by
  unfold txL
  rw [txR_eq, show (wdsR L R).length = R.length by simp [wdsR]]
/-- Rows of numbers side by side. -/
structure RowsV (W : World) (B : Nat) (vs : List Value) (xs : List (List Value)) : Prop where
  row : ∀ (i : Nat) v x, vs[i]? = some v → xs[i]? = some x → W.ownsRow B 3 1 v x.length x
  two : ∀ (i j : Nat) u v, i ≠ j → vs[i]? = some u → vs[j]? = some v → u.ownBlock = none ∨ u.ownBlock ≠ v.ownBlock
  lx : vs.length = xs.length
theorem RowsV.kept {W w' : World} {B : Nat} {vs : List Value} {xs : List (List Value)} (h : RowsV W B vs xs) (hb : Below W.heap.size W w') : RowsV w' B vs xs :=
  ⟨fun i v x h1 h3 => World.ownsRow.kept (h.row i v x h1 h3) (grown_below hb) (by cases v.ownBlock <;> simp), h.two, h.lx⟩
theorem RowsV.push {W w' : World} {B i : Nat} {vs : List Value} {xs : List (List Value)} {v v' y : Value} {x : List Value} (h : RowsV W B vs xs) (hv : vs[i]? = some v)
    (h1 : w'.ownsRow B 3 1 v' (x ++ [y]).length (x ++ [y])) (hg : W.grownBy w' v.ownBlock) (hb : v'.ownBlock = v.ownBlock ∨ v'.ownBlock = some W.heap.size) : RowsV w' B (vs.set i v') (xs.set i (x ++ [y])) := by
  have hil := (List.getElem?_eq_some_iff.1 hv).1
  have fresh : ∀ (j : Nat) (u : Value), vs[j]? = some u → u.ownBlock ≠ some W.heap.size := fun j u hu e => by
    have hj := (List.getElem?_eq_some_iff.1 hu).1
    have q := h.row j u _ hu (List.getElem?_eq_getElem (by have := h.lx; omega))
    have := (World.ownsRow.lt q _ e).2
    omega
  refine ⟨fun j u z hu hz => ?_, fun j k a b hjk ha hb' => ?_, by simpa using h.lx⟩
  · by_cases e : j = i
    · subst e
      rw [List.getElem?_set_self hil] at hu
      rw [List.getElem?_set_self (by have := h.lx; omega)] at hz
      injection hu with hu
      injection hz with hz
      subst hu hz
      exact h1
    · rw [List.getElem?_set_ne (fun q => e q.symm)] at hu hz
      exact World.ownsRow.kept (h.row j u z hu hz) hg (h.two j i u v e hu hv)
  · by_cases e : j = i
    · subst e
      rw [List.getElem?_set_self hil] at ha
      rw [List.getElem?_set_ne hjk] at hb'
      injection ha with ha
      subst ha
      rcases hb with e | e
      · rw [e]; exact h.two j k v b hjk hv hb'
      · right; rw [e]; exact fun q => fresh k b hb' q.symm
    · rw [List.getElem?_set_ne (fun q => e q.symm)] at ha
      by_cases e2 : k = i
      · subst e2
        rw [List.getElem?_set_self hil] at hb'
        injection hb' with hb'
        subst hb'
        rcases hb with e | e
        · rw [e]; exact h.two j k a v hjk ha hv
        · right; rw [e]; exact fresh j a ha
      · rw [List.getElem?_set_ne (fun q => e2 q.symm)] at hb'
        exact h.two j k a b hjk ha hb'
theorem rowsV_nil (W : World) (B : Nat) : RowsV W B [.slice none 0 0, .slice none 0 0, .slice none 0 0] [[], [], []] := by
  refine ⟨fun i v x h1 h3 => ?_, fun i j u v _ h1 _ => ?_, rfl⟩
  · match i, h1, h3 with
    | 0, h1, h3 => injection h1 with h1; injection h3 with h3; subst h1 h3; exact World.ownsRow_nil _ _ _ _
    | 1, h1, h3 => injection h1 with h1; injection h3 with h3; subst h1 h3; exact World.ownsRow_nil _ _ _ _
    | 2, h1, h3 => injection h1 with h1; injection h3 with h3; subst h1 h3; exact World.ownsRow_nil _ _ _ _
    | i + 3, h1, _ => simp at h1
  · match i, h1 with
    | 0, h1 => injection h1 with h1; subst h1; exact .inl rfl
    | 1, h1 => injection h1 with h1; subst h1; exact .inl rfl
    | 2, h1 => injection h1 with h1; subst h1; exact .inl rfl
    | i + 3, h1 => simp at h1
/-- The signs, glyphs and lines so far. -/
abbrev txs (l : List (Int × Int × Int)) : List (List Value) := [l.map fun x => .int .i64 x.1, l.map fun x => .int .i64 x.2.1, l.map fun x => .int .i64 x.2.2]
def LdSo (w2 wr : World) (v1 v2 v3 : Value) (l : List (Int × Int × Int)) : Prop := RowsV wr w2.heap.size [v1, v2, v3] (txs l) ∧ Below w2.heap.size w2 wr
theorem LdSo.then {w2 wr w' : World} {v1 v2 v3 : Value} {l : List (Int × Int × Int)} (h : LdSo w2 wr v1 v2 v3 l) (hb : Below wr.heap.size wr w') : LdSo w2 w' v1 v2 v3 l := ⟨h.1.kept hb, h.2.trans (hb.mono h.2.size)⟩
theorem txL_signs {L : List Gy} {R : List (List Int)} (h : Lns L R) : ∀ x ∈ txL L R, 0 ≤ x.1 ∧ x.1 ≤ 1114111 := fun x hx => by
  obtain ⟨i, hi, rfl⟩ := List.getElem_of_mem hx
  have c := h.text.1 i _ (List.getElem?_eq_getElem hi)
  by_cases h0 : (txL L R)[i].2.1 < 0
  · rcases c.sep h0 with e | e <;> omega
  · obtain ⟨_, r, hr, e, _⟩ := c.sign (by omega)
    have := rnT_bound hr
    omega
def NumRes (zs : List Int) (w : World) (e : Ending) (w' : World) : Prop := ∃ v, e = .returned v ∧ OwnI w' w.heap.size v zs ∧ Below w.heap.size w w'
set_option maxHeartbeats 2000000 in
theorem numbers_fn (S : Nat → Prop) (zs : List Int) (v : Value) (w : World) (hI : Is32 S w v zs) (hz : ∀ z ∈ zs, 0 ≤ z ∧ z ≤ 1114111) (hl : zs.length ≤ 100000000000) :
    Calls Try.prog 11 #[v] w fun e w' => NumRes zs w e w' := by
  obtain ⟨a, c, rfl, hI⟩ := hI
  have HI := hid hI
  have HZ := hid hz
  have HL := hid hl
  have hl' : (zs.length : Int) ≤ 100000000000 := by omega
  clear hI hz hl
  go_enter Try.func11, Try.ntmps11
  go_wp2_with fail
  go_loopw [3, 4] (fun v i wr => ∃ p : Nat, i = .int .i64 p ∧ p ≤ zs.length ∧ Hid (OwnI wr w.heap.size v (zs.take p) ∧ Below w.heap.size w wr)) (fun _ i _ => zs.length - (intOf i).toNat)
  case atStart => exact ⟨0, rfl, Nat.zero_le _, hid ⟨World.ownsRow_nil _ _ _ _, Below.refl _ _⟩⟩
  case round =>
    obtain ⟨p, rfl, hp, HO⟩ := hrel
    by_cases hpl : p < zs.length
    · have hpl' : (p : Int) < zs.length := by omega
      obtain ⟨b, off, u, e1, _, hb, cz, rfl⟩ := HI.out p _ (List.getElem?_eq_getElem hpl)
      subst e1
      have cz1 := (HO.out.2.cell (p := ⟨b, off + p, none⟩) hb).trans cz
      obtain ⟨hz0, hz1⟩ := HZ.out _ (List.getElem_mem hpl)
      have HT := hid (show zs.take (p + 1) = zs.take p ++ [zs[p]] from List.take_succ_eq_append_getElem hpl)
      have HLp := hid (show (zs.take p).length ≤ 1000000000000 by rw [List.length_take]; have := HL.out; omega)
      clear cz
      generalize zs[p] = z at *
      have wz : IntKind.i64.wrap z = z := by rw [IntKind.wrap_i64]; omega
      have hBs := HO.out.2.size
      go_wp2_with (at_builtin; go_loud (refine wpApp1 Try.underlying26 infoI rfl (by decide) rfl _ _ rfl w.heap.size _ _ _ rfl (World.ownsRow.alloc HO.out.1 _) _ (.int .i64 z) rfl rfl (by simp) HLp.out (by simp; omega) ?_); intro v' w2 q1 q2 q3; have H2 := hid (show OwnI w2 w.heap.size v' (zs.take (p + 1)) ∧ Below w.heap.size w w2 from ⟨by rw [HT.out]; unfold OwnI; simpa using q1, (HO.out.2.alloc hBs _).grown q2 (by simp; omega) (fun k hk => (World.ownsRow.lt HO.out.1 k hk).1)⟩); clear q1 q2 q3)
      go_roundw
      case rel => exact ⟨p + 1, by go_num, by omega, H2⟩
      case measure => simp [intOf]; omega
    · have hpl' : ¬ (p : Int) < zs.length := by omega
      have e : p = zs.length := by omega
      subst e
      have H2 := HO.out
      rw [List.take_length] at H2
      have H3 := hid H2
      clear H2 HO
      go_wp2_with fail
      go_ret
      exact ⟨_, rfl, H3.out⟩
set_option maxHeartbeats 2000000 in
theorem same_fn (S S' : Nat → Prop) (zs : List Int) (v v' : Value) (w : World) (hI : Is1 S w v zs) (hJ : Is1 S' w v' zs) (hl : zs.length ≤ 100000000000) :
    Calls Try.prog 10 #[v, v'] w fun e w' => e = .returned (.bool true) ∧ Below w.heap.size w w' := by
  obtain ⟨a, c, rfl, hI⟩ := hI
  obtain ⟨a', c', rfl, hJ⟩ := hJ
  have HI := hid hI
  have HJ := hid hJ
  have hl' : (zs.length : Int) ≤ 100000000000 := by omega
  clear hI hJ hl
  go_enter Try.func10, Try.ntmps10
  go_wp2_with fail
  go_loopw [5] (fun i wr => ∃ p : Nat, i = .int .i64 p ∧ p ≤ zs.length ∧ Below w.heap.size w wr) (fun i _ => zs.length - (intOf i).toNat)
  case atStart => exact ⟨0, rfl, Nat.zero_le _, Below.refl _ _⟩
  case round =>
    obtain ⟨p, rfl, hp, hB⟩ := hrel
    by_cases hpl : p < zs.length
    · have hpl' : (p : Int) < zs.length := by omega
      obtain ⟨b, off, u, e1, _, hb, cz, rfl⟩ := HI.out p _ (List.getElem?_eq_getElem hpl)
      obtain ⟨b', off', u, e2, _, hb', cz', rfl⟩ := HJ.out p _ (List.getElem?_eq_getElem hpl)
      subst e1 e2
      have d1 := (hB.cell (p := ⟨b, off + p, none⟩) hb).trans cz
      have d2 := (hB.cell (p := ⟨b', off' + p, none⟩) hb').trans cz'
      clear cz cz'
      generalize zs[p] = z at *
      go_wp2_with fail
      go_region
      go_wp2_with fail
      go_roundw
      case rel => exact ⟨p + 1, by go_num, by omega, hB.drew⟩
      case measure => simp [intOf]; omega
    · have hpl' : ¬ (p : Int) < zs.length := by omega
      have e : p = zs.length := by omega
      subst e
      go_wp2_with fail
      go_ret
      exact ⟨rfl, hB⟩
end Go.Proofs.Ytogdfjkbkhnobaa
