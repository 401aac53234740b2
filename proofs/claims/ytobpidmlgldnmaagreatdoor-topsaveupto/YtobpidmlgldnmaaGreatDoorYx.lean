/-
  Joined: Yv, Yw, Yx.
-/
import Derived.Test.YtobpidmlgldnmaaGreatDoorYua

/-
  What reading a value makes, plainly.
-/
namespace Go.Proofs.YtobpidmlgldnmaaGreatDoor
open Go.RowKit
set_option maxRecDepth 100000

def nameV (s : ByteArray) (p : Nat) : Rd := match nameR (wordP s (p + 1)).data.toList with
  | none => (V0 4 0 eB, 4, p)
  | some b => (V0 4 0 ⟨b.toArray⟩, 0, p + 1 + (wordP s (p + 1)).size)
def litV (s : ByteArray) (p : Nat) : Rd := (V0 3 0 ⟨(litT (s.data.toList.drop (p + 1)) 1 [] (p + 1)).2.1.toArray⟩, textR (litT (s.data.toList.drop (p + 1)) 1 [] (p + 1)).1 (litT (s.data.toList.drop (p + 1)) 1 [] (p + 1)).2.1, (litT (s.data.toList.drop (p + 1)) 1 [] (p + 1)).2.2)
def hexW (s : ByteArray) (p : Nat) : Rd := (V0 3 0 ⟨(hexTk (s.data.toList.drop (p + 1)) none [] (p + 1)).2.1.toArray⟩, textR (hexTk (s.data.toList.drop (p + 1)) none [] (p + 1)).1 (hexTk (s.data.toList.drop (p + 1)) none [] (p + 1)).2.1, (hexTk (s.data.toList.drop (p + 1)) none [] (p + 1)).2.2)
def listV (f : Nat → Rd) (s : ByteArray) (p : Nat) : Rd := (⟨5, 0, eB, (rdL f s 302 [] (p + 1)).1, []⟩, (rdL f s 302 [] (p + 1)).2.1, (rdL f s 302 [] (p + 1)).2.2)
def dictV (f : Nat → Rd) (s : ByteArray) (p : Nat) : Rd := (⟨6, 0, eB, [], (rdD f s 302 [] (p + 2)).1⟩, (rdD f s 302 [] (p + 2)).2.1, (rdD f s 302 [] (p + 2)).2.2)
def otherV (s : ByteArray) (p : Nat) : Rd := (V0 (otherK s p).1 (otherK s p).2.1 eB, (otherK s p).2.2.1, (otherK s p).2.2.2)
/-- What a value is that begins at p, just there. -/
def rdAt (f : Nat → Rd) (s : ByteArray) (p : Nat) : Rd :=
  if s.data.toList[p]? = some 47 then nameV s p
  else if s.data.toList[p]? = some 40 then litV s p
  else if s.data.toList[p]? = some 60 then (if s.data.toList[p + 1]? = some 60 then dictV f s p else hexW s p)
  else if s.data.toList[p]? = some 91 then listV f s p
  else if (s.data.toList[p]?).map isSg = some true then (V0 0 0 eB, 4, p)
  else otherV s p
/-- What reading a value makes; so many levels are left. -/
def rdV (s : ByteArray) : Nat → Nat → Rd
  | 0, j => (V0 0 0 eB, if skipP s j = s.size then 5 else 2, j)
  | n + 1, j => if skipP s j = s.size then (V0 0 0 eB, 5, j) else rdAt (rdV s n) s (skipP s j)

/-- Does this stand at p? -/
def ahB (s : ByteArray) (p : Nat) (q : ByteArray) : Bool := Lib.hasPrefix (s.data.toList.drop p) q.data.toList
theorem ahB_one {s : ByteArray} {p : Nat} {c : UInt8} (hp : p < s.size) : ahB s p ⟨#[c]⟩ = decide (s[p] = c) := by
  unfold ahB
  rw [drop_at s p hp]
  show List.isPrefixOf [c] (s[p] :: _) = _
  by_cases h : s[p] = c
  · rw [h]; simp [List.isPrefixOf]
  · rw [decide_eq_false h]; simp [List.isPrefixOf, beq_eq_false_iff_ne, Ne.symm h]
theorem ahB_two {s : ByteArray} {p : Nat} {c e : UInt8} (hp : p < s.size) : ahB s p ⟨#[c, e]⟩ = decide (s[p] = c ∧ s.data.toList[p + 1]? = some e) := by
  unfold ahB
  rw [drop_at s p hp]
  show List.isPrefixOf [c, e] (s[p] :: _) = _
  by_cases h : s[p] = c
  · by_cases hq : p + 1 < s.size
    · rw [drop_at s (p + 1) hq, h]
      have hg : s.data.toList[p + 1]? = some s[p + 1] := by rw [List.getElem?_eq_getElem (by simpa using hq)]; rfl
      rw [hg]
      by_cases h2 : s[p + 1] = e
      · rw [h2]; simp [List.isPrefixOf]
      · simp [List.isPrefixOf, beq_eq_false_iff_ne, Ne.symm h2, h2]
    · have hn : s.data.toList[p + 1]? = none := by rw [List.getElem?_eq_none_iff]; simp; omega
      rw [List.drop_eq_nil_of_le (by simp; omega), hn]
      simp [List.isPrefixOf]
  · rw [decide_eq_false (fun q => h q.1)]; simp [List.isPrefixOf, Ne.symm h]
theorem yAheadQ (P : Nat) (s q : ByteArray) (k : Nat) (w : World) (hR : RdAt w P s k) (hk : k ≤ s.size) :
    Calls Tryz.prog 91 #[.pointer (some ⟨P, 0, none⟩), .string q] w fun e w' => e = .returned (.bool (ahB s k q)) ∧ Moved P w w' s k := yAhead P s q k w hR hk
theorem Boxed.fill5 {P : Nat} {w a : World} {s : ByteArray} {j : Nat} (h : Boxed P w a s j) (v0 v1 v2 v3 v4 : Value) {wf : World} (hf : wf = set5 a w.heap.size v0 v1 v2 v3 v4) :
    Moved P w wf s j ∧ At wf w.heap.size 38 #[v0, v1, v2, v3, v4] ∧ wf.heap.size = a.heap.size ∧ ∀ k, k ≠ w.heap.size → wf.heap[k]? = a.heap[k]? := by
  subst hf
  exact ⟨h.mov.set5 (Nat.le_refl _) h.lt _ _ _ _ _, At.five h.box _ _ _ _ _, set5_size _ _ _ _ _ _ _, fun k hk => set5_other _ _ _ _ _ _ _ hk⟩
theorem repIn_boxed {w a wf : World} {d : Nat} {x : V} {cs : List Value} (h1 : wf.heap.size = a.heap.size) (h2 : ∀ k, k ≠ w.heap.size → wf.heap[k]? = a.heap[k]?) {b : World} (hb : w.heap.size < b.heap.size) (hx : RepIn (fun g => b.heap.size ≤ g ∧ g < a.heap.size) d a x cs) :
    RepIn (fun g => w.heap.size ≤ g ∧ g < wf.heap.size) d wf x cs :=
  (hx.agree (by omega) fun g hg => h2 g (by have := hg.1; omega)).mono fun g hg => ⟨by have := hg.1; omega, by have := hg.2; omega⟩
theorem refP_le {s : ByteArray} {k j : Nat} (hk : k ≤ s.size) (h : refP s k = some j) : j ≤ s.size := by
  unfold refP at h
  split at h
  · rename_i h1
    split at h
    · rename_i h2
      injection h with h
      have a1 := yWordLe (s := s) (k := skipP s k) (skipP_le hk).2
      rw [h1] at a1
      have b1 : w0.size = 1 := rfl
      have hk2 : skipP s k + 1 ≤ s.size := by omega
      have a2 := yWordLe (s := s) (k := skipP s (skipP s k + 1)) (skipP_le hk2).2
      rw [h2] at a2
      have b2 : wR.size = 1 := rfl
      omega
    · cases h
  · cases h
theorem otherK_le {s : ByteArray} {k : Nat} (hk : k ≤ s.size) : (otherK s k).2.2.2 ≤ s.size := by
  have hl := yWordLe hk
  unfold otherK
  generalize wordP s k = W at hl ⊢
  have hr : (refP s (k + W.size)).getD (k + W.size) ≤ s.size := by
    cases h : refP s (k + W.size) with
    | none => exact hl
    | some j => exact refP_le hl h
  by_cases h1 : W = wNull
  · simp only [if_pos h1]; exact hl
  · by_cases h2 : W = wTrue
    · simp only [if_neg h1, if_pos h2]; exact hl
    · by_cases h3 : W = wFalse
      · simp only [if_neg h1, if_neg h2, if_pos h3]; exact hl
      · by_cases h4 : objL W.data.toList ≠ 0 ∧ (refP s (k + W.size)).isSome = true
        · simp only [if_neg h1, if_neg h2, if_neg h3, if_pos h4]; exact hr
        · simp only [if_neg h1, if_neg h2, if_neg h3, if_neg h4]; exact hl
theorem textR_zero {e : Int} {xs : List UInt8} (h : textR e xs = 0) : e = 0 ∧ xs.length ≤ 200 := by
  unfold textR at h
  split at h
  · rename_i h1; exact absurd h h1
  · rename_i h1
    split at h
    · exact absurd h (by decide)
    · rename_i h2; exact ⟨by simpa using h1, by omega⟩
theorem yTextC (e : Int) (B : Nat) (v : Value) (xs : List UInt8) (w : World) (hown : Own8 w B v xs) :
    Calls Tryz.prog 93 #[v, errN e] w fun r w' => ∃ (k : Int) (t : ByteArray), r = .returned (.tuple #[.agg #[.int .i64 k, .int .i64 0, .string t, .slice none 0 0, .slice none 0 0], errN (textR e xs)]) ∧ Hid (textR e xs = 0 → k = 3 ∧ t = ⟨xs.toArray⟩) ∧ Below w.heap.size w w' := by
  refine (yText e B v xs w hown).mono ?_
  rintro r w' ⟨rfl, hb⟩
  unfold textV
  by_cases h : textR e xs = 0
  · rw [if_pos h]; exact ⟨3, _, rfl, hid (fun _ => ⟨rfl, rfl⟩), hb⟩
  · rw [if_neg h]; exact ⟨0, _, rfl, hid (fun q => absurd q h), hb⟩
end Go.Proofs.YtobpidmlgldnmaaGreatDoor

/-
  The program's reader: a value, case by case.
-/
namespace Go.Proofs.YtobpidmlgldnmaaGreatDoor
open Go.RowKit
set_option maxRecDepth 100000

set_option maxHeartbeats 4000000 in
theorem yvName (m : Int) (P : Nat) (s : ByteArray) (j p d : Nat) (deep : Int) (w : World) (_hE : Env m P w) (hR : RdAt w P s j) (hj : j ≤ s.size) (hs : s.size ≤ 100000) (hd : 0 ≤ deep ∧ deep ≤ 8) (hp : skipP s j = p) (hpl : p < s.size) (h47 : s[p] = 47) :
    Calls Tryz.prog 80 #[.pointer (some ⟨P, 0, none⟩), .int .i64 deep] w (Said P w s (d + 1) (nameV s p)) := by
  have hPl : P < w.heap.size := At.lt hR
  have hX := Boxed.new hR
  have hk0 : (0 : Int) ≤ (p : Int) := by omega
  have hk1 : (p : Int) < (s.size : Int) := by omega
  have hd8 : ¬ (8 : Int) < deep := by omega
  have hsk := fun (w : World) (h : RdAt w P s j) => show Calls Tryz.prog 90 #[.pointer (some ⟨P, 0, none⟩)] w fun e w' => e = .returned .nilIface ∧ Moved P w w' s p by
    have q := ySkipOk P s j w h hj hs (by rw [hp]; omega)
    rw [hp] at q; exact q
  have hah := fun (q : ByteArray) (w : World) (h : RdAt w P s p) => yAheadQ P s q p w h (by omega)
  have e47 : ahB s p ⟨#[47]⟩ = true := by rw [ahB_one hpl]; exact decide_eq_true h47
  have hn := fun (w : World) (h : RdAt w P s p) => yName P s p w h hpl h47 hs
  have HL := hid (yWordLe (s := s) (k := p + 1) (by omega))
  clear hp h47
  unfold nameV
  generalize wordP s (p + 1) = W at hn HL ⊢
  cases hr : nameR W.data.toList with
  | none =>
    rw [hr] at hn
    unfold nameOut at hn
    simp only
    clear hr
    go_enter Tryz.func80, Tryz.ntmps80
    go_wp2_with (first | (go_at_call 90; go_must (refine (hsk _ hX.mov.at_).mono ?_); rintro e wa ⟨rfl, hma⟩; (replace hX := hX.moved hma); obtain ⟨⟨bx0, bx1, bx2, bx3, bx4⟩, bf0, bf1, bf2, bf3, bf4⟩ := box5 hX.box) | (go_at_call 91; go_must (refine (hah _ _ hX.mov.at_).mono ?_); rintro e wb ⟨rfl, hmb⟩; (replace hX := hX.moved hmb); obtain ⟨⟨bx0, bx1, bx2, bx3, bx4⟩, bf0, bf1, bf2, bf3, bf4⟩ := box5 hX.box) | (go_at_call 92; go_must (refine (hn _ hX.mov.at_).mono ?_); rintro e wc ⟨rfl, hmc⟩; (replace hX := hX.moved hmc); obtain ⟨⟨bx0, bx1, bx2, bx3, bx4⟩, bf0, bf1, bf2, bf3, bf4⟩ := box5 hX.box))
    obtain ⟨hM5, hB5⟩ := hX.fill 4 0 ⟨#[]⟩
    generalize World.setCell _ _ _ = wf at hB5 hM5 ⊢
    obtain ⟨⟨cx0, cx1, cx2, cx3, cx4⟩, _⟩ := box5 hB5
    refine bodyPost_ret (v := .tuple #[.agg (vc 4 0 ⟨#[]⟩), .iface 68 (.int .i64 4)]) (by simp [results, Tryz.results80, go_sem, cx0, cx1, cx2, cx3, cx4]; try first | exact ⟨rfl, rfl⟩ | rfl) rfl ?_
    exact ⟨4, 0, ⟨#[]⟩, none, none, 0, 0, 0, 0, _, rfl, hM5, hid (fun h => absurd (show (4 : Int) = 0 from h) (by decide))⟩
  | some b =>
    have HBS := hid (show (⟨b.toArray⟩ : ByteArray).size ≤ maxLen from by
      have h1 : (nameL W.data.toList).bind (fun b => if nmOk ⟨b.toArray⟩ then some b else none) = some b := hr
      cases hl : nameL W.data.toList with
      | none => rw [hl] at h1; cases h1
      | some c =>
        rw [hl] at h1
        simp only [Option.bind_some] at h1
        split at h1
        · rename_i hm; cases h1; have := nmOk_size hm; unfold maxLen; omega
        · cases h1)
    rw [hr] at hn
    unfold nameOut at hn
    simp only
    clear hr
    go_enter Tryz.func80, Tryz.ntmps80
    go_wp2_with (first | (go_at_call 90; go_must (refine (hsk _ hX.mov.at_).mono ?_); rintro e wa ⟨rfl, hma⟩; (replace hX := hX.moved hma); obtain ⟨⟨bx0, bx1, bx2, bx3, bx4⟩, bf0, bf1, bf2, bf3, bf4⟩ := box5 hX.box) | (go_at_call 91; go_must (refine (hah _ _ hX.mov.at_).mono ?_); rintro e wb ⟨rfl, hmb⟩; (replace hX := hX.moved hmb); obtain ⟨⟨bx0, bx1, bx2, bx3, bx4⟩, bf0, bf1, bf2, bf3, bf4⟩ := box5 hX.box) | (go_at_call 92; go_must (refine (hn _ hX.mov.at_).mono ?_); rintro e wc ⟨rfl, hmc⟩; (replace hX := hX.moved hmc); obtain ⟨⟨bx0, bx1, bx2, bx3, bx4⟩, bf0, bf1, bf2, bf3, bf4⟩ := box5 hX.box))
    obtain ⟨hM5, hB5⟩ := hX.fill 4 0 ⟨b.toArray⟩
    generalize World.setCell _ _ _ = wf at hB5 hM5 ⊢
    obtain ⟨⟨cx0, cx1, cx2, cx3, cx4⟩, _⟩ := box5 hB5
    refine bodyPost_ret (v := .tuple #[.agg (vc 4 0 ⟨b.toArray⟩), .nilIface]) (by simp [results, Tryz.results80, go_sem, cx0, cx1, cx2, cx3, cx4]; try first | exact ⟨rfl, rfl⟩ | rfl) rfl ?_
    exact ⟨4, 0, _, none, none, 0, 0, 0, 0, _, rfl, hM5, hid (fun _ => ⟨rfl, HL.out, repIn_vc _ _ _ _ _ _ HBS.out⟩)⟩
set_option maxHeartbeats 4000000 in
theorem yvLit (m : Int) (P : Nat) (s : ByteArray) (j p d : Nat) (deep : Int) (w : World) (_hE : Env m P w) (hR : RdAt w P s j) (hj : j ≤ s.size) (hs : s.size ≤ 100000) (hd : 0 ≤ deep ∧ deep ≤ 8) (hp : skipP s j = p) (hpl : p < s.size) (h47 : ¬ s[p] = 47) (h40 : s[p] = 40) :
    Calls Tryz.prog 80 #[.pointer (some ⟨P, 0, none⟩), .int .i64 deep] w (Said P w s (d + 1) (litV s p)) := by
  have hPl : P < w.heap.size := At.lt hR
  have hX := Boxed.new hR
  have hk0 : (0 : Int) ≤ (p : Int) := by omega
  have hk1 : (p : Int) < (s.size : Int) := by omega
  have hd8 : ¬ (8 : Int) < deep := by omega
  have hsk := fun (w : World) (h : RdAt w P s j) => show Calls Tryz.prog 90 #[.pointer (some ⟨P, 0, none⟩)] w fun e w' => e = .returned .nilIface ∧ Moved P w w' s p by
    have q := ySkipOk P s j w h hj hs (by rw [hp]; omega)
    rw [hp] at q; exact q
  have hah := fun (q : ByteArray) (w : World) (h : RdAt w P s p) => yAheadQ P s q p w h (by omega)
  have e47 : ahB s p ⟨#[47]⟩ = false := by rw [ahB_one hpl]; exact decide_eq_false h47
  have e40 : ahB s p ⟨#[40]⟩ = true := by rw [ahB_one hpl]; exact decide_eq_true h40
  have hn := fun (w : World) (h : RdAt w P s p) => yPlain P s p w h hpl hs
  clear hp
  unfold litV
  generalize litT (s.data.toList.drop (p + 1)) 1 [] (p + 1) = r at hn ⊢
  obtain ⟨e1, xs, z⟩ := r
  simp only at hn ⊢
  go_enter Tryz.func80, Tryz.ntmps80
  go_wp2_with (first | (go_at_call 90; go_must (refine (hsk _ hX.mov.at_).mono ?_); rintro e wa ⟨rfl, hma⟩; (replace hX := hX.moved hma); obtain ⟨⟨bx0, bx1, bx2, bx3, bx4⟩, bf0, bf1, bf2, bf3, bf4⟩ := box5 hX.box) | (go_at_call 91; go_must (refine (hah _ _ hX.mov.at_).mono ?_); rintro e wb ⟨rfl, hmb⟩; (replace hX := hX.moved hmb); obtain ⟨⟨bx0, bx1, bx2, bx3, bx4⟩, bf0, bf1, bf2, bf3, bf4⟩ := box5 hX.box) | (go_at_call 94; go_must (refine (hn _ hX.mov.at_).mono ?_); rintro e wc ⟨v1, J, rfl, hOw, hmc, HJ⟩; (replace hX := hX.moved hmc); obtain ⟨⟨bx0, bx1, bx2, bx3, bx4⟩, bf0, bf1, bf2, bf3, bf4⟩ := box5 hX.box) | (go_at_call 93; go_must (refine (yTextC e1 _ v1 xs _ hOw).mono ?_); rintro e wd ⟨k1, t1, rfl, HK, hbd⟩; (replace hX := hX.below hbd); obtain ⟨⟨bx0, bx1, bx2, bx3, bx4⟩, bf0, bf1, bf2, bf3, bf4⟩ := box5 hX.box))
  obtain ⟨hM5, hB5⟩ := hX.fill k1 0 t1
  generalize World.setCell _ _ _ = wf at hB5 hM5 ⊢
  obtain ⟨⟨cx0, cx1, cx2, cx3, cx4⟩, _⟩ := box5 hB5
  refine bodyPost_ret (v := .tuple #[.agg (vc k1 0 t1), errN (textR e1 xs)]) (by simp [results, Tryz.results80, go_sem, cx0, cx1, cx2, cx3, cx4]; try first | exact ⟨rfl, rfl⟩ | rfl) rfl ?_
  refine ⟨k1, 0, t1, none, none, 0, 0, 0, 0, _, rfl, hM5, hid (fun h => ?_)⟩
  obtain ⟨q1, q2⟩ := HK.out h
  obtain ⟨q3, q4⟩ := textR_zero h
  obtain ⟨q5, q6⟩ := HJ.out q3
  subst q1
  subst q2
  exact ⟨q5, q6, repIn_vc _ _ _ _ _ _ (by unfold maxLen; show xs.toArray.size ≤ _; simp; omega)⟩
set_option maxHeartbeats 4000000 in
theorem yvHex (m : Int) (P : Nat) (s : ByteArray) (j p d : Nat) (deep : Int) (w : World) (_hE : Env m P w) (hR : RdAt w P s j) (hj : j ≤ s.size) (hs : s.size ≤ 100000) (hd : 0 ≤ deep ∧ deep ≤ 8) (hp : skipP s j = p) (hpl : p < s.size) (h47 : ¬ s[p] = 47) (h40 : ¬ s[p] = 40) (h60 : s[p] = 60) (h6 : ¬ s.data.toList[p + 1]? = some 60) :
    Calls Tryz.prog 80 #[.pointer (some ⟨P, 0, none⟩), .int .i64 deep] w (Said P w s (d + 1) (hexW s p)) := by
  have hPl : P < w.heap.size := At.lt hR
  have hX := Boxed.new hR
  have hk0 : (0 : Int) ≤ (p : Int) := by omega
  have hk1 : (p : Int) < (s.size : Int) := by omega
  have hd8 : ¬ (8 : Int) < deep := by omega
  have hsk := fun (w : World) (h : RdAt w P s j) => show Calls Tryz.prog 90 #[.pointer (some ⟨P, 0, none⟩)] w fun e w' => e = .returned .nilIface ∧ Moved P w w' s p by
    have q := ySkipOk P s j w h hj hs (by rw [hp]; omega)
    rw [hp] at q; exact q
  have hah := fun (q : ByteArray) (w : World) (h : RdAt w P s p) => yAheadQ P s q p w h (by omega)
  have e47 : ahB s p ⟨#[47]⟩ = false := by rw [ahB_one hpl]; exact decide_eq_false h47
  have e40 : ahB s p ⟨#[40]⟩ = false := by rw [ahB_one hpl]; exact decide_eq_false h40
  have e6060 : ahB s p ⟨#[60, 60]⟩ = false := by rw [ahB_two hpl]; exact decide_eq_false fun h => h6 h.2
  have e60 : ahB s p ⟨#[60]⟩ = true := by rw [ahB_one hpl]; exact decide_eq_true h60
  have hn := fun (w : World) (h : RdAt w P s p) => yHex P s p w h hpl hs
  clear hp
  unfold hexW
  generalize hexTk (s.data.toList.drop (p + 1)) none [] (p + 1) = r at hn ⊢
  obtain ⟨e1, xs, z⟩ := r
  simp only at hn ⊢
  go_enter Tryz.func80, Tryz.ntmps80
  go_wp2_with (first | (go_at_call 90; go_must (refine (hsk _ hX.mov.at_).mono ?_); rintro e wa ⟨rfl, hma⟩; (replace hX := hX.moved hma); obtain ⟨⟨bx0, bx1, bx2, bx3, bx4⟩, bf0, bf1, bf2, bf3, bf4⟩ := box5 hX.box) | (go_at_call 91; go_must (refine (hah _ _ hX.mov.at_).mono ?_); rintro e wb ⟨rfl, hmb⟩; (replace hX := hX.moved hmb); obtain ⟨⟨bx0, bx1, bx2, bx3, bx4⟩, bf0, bf1, bf2, bf3, bf4⟩ := box5 hX.box) | (go_at_call 96; go_must (refine (hn _ hX.mov.at_).mono ?_); rintro e wc ⟨v1, J, rfl, hOw, hmc, HJ⟩; (replace hX := hX.moved hmc); obtain ⟨⟨bx0, bx1, bx2, bx3, bx4⟩, bf0, bf1, bf2, bf3, bf4⟩ := box5 hX.box) | (go_at_call 93; go_must (refine (yTextC e1 _ v1 xs _ hOw).mono ?_); rintro e wd ⟨k1, t1, rfl, HK, hbd⟩; (replace hX := hX.below hbd); obtain ⟨⟨bx0, bx1, bx2, bx3, bx4⟩, bf0, bf1, bf2, bf3, bf4⟩ := box5 hX.box))
  obtain ⟨hM5, hB5⟩ := hX.fill k1 0 t1
  generalize World.setCell _ _ _ = wf at hB5 hM5 ⊢
  obtain ⟨⟨cx0, cx1, cx2, cx3, cx4⟩, _⟩ := box5 hB5
  refine bodyPost_ret (v := .tuple #[.agg (vc k1 0 t1), errN (textR e1 xs)]) (by simp [results, Tryz.results80, go_sem, cx0, cx1, cx2, cx3, cx4]; try first | exact ⟨rfl, rfl⟩ | rfl) rfl ?_
  refine ⟨k1, 0, t1, none, none, 0, 0, 0, 0, _, rfl, hM5, hid (fun h => ?_)⟩
  obtain ⟨q1, q2⟩ := HK.out h
  obtain ⟨q3, q4⟩ := textR_zero h
  obtain ⟨q5, q6⟩ := HJ.out q3
  subst q1
  subst q2
  exact ⟨q5, q6, repIn_vc _ _ _ _ _ _ (by unfold maxLen; show xs.toArray.size ≤ _; simp; omega)⟩
set_option maxHeartbeats 4000000 in
theorem yvList (m : Int) (P : Nat) (s : ByteArray) (j p d : Nat) (deep : Int) (w : World) (hE : Env m P w) (hR : RdAt w P s j) (hj : j ≤ s.size) (hs : s.size ≤ 100000) (hd : 0 ≤ deep ∧ deep ≤ 8) (hp : skipP s j = p) (hpl : p < s.size) (h47 : ¬ s[p] = 47) (h40 : ¬ s[p] = 40) (h60 : ¬ s[p] = 60) (h91 : s[p] = 91) (f : Nat → Rd)
    (hval : ∀ (w : World) (j : Nat), Env m P w → RdAt w P s j → j ≤ s.size → Calls Tryz.prog 80 #[.pointer (some ⟨P, 0, none⟩), .int .i64 (deep + 1)] w (Said P w s d (f j))) :
    Calls Tryz.prog 80 #[.pointer (some ⟨P, 0, none⟩), .int .i64 deep] w (Said P w s (d + 1) (listV f s p)) := by
  have hPl : P < w.heap.size := At.lt hR
  have hX := Boxed.new hR
  have hk0 : (0 : Int) ≤ (p : Int) := by omega
  have hk1 : (p : Int) < (s.size : Int) := by omega
  have hd8 : ¬ (8 : Int) < deep := by omega
  have hsk := fun (w : World) (h : RdAt w P s j) => show Calls Tryz.prog 90 #[.pointer (some ⟨P, 0, none⟩)] w fun e w' => e = .returned .nilIface ∧ Moved P w w' s p by
    have q := ySkipOk P s j w h hj hs (by rw [hp]; omega)
    rw [hp] at q; exact q
  have hah := fun (q : ByteArray) (w : World) (h : RdAt w P s p) => yAheadQ P s q p w h (by omega)
  have e47 : ahB s p ⟨#[47]⟩ = false := by rw [ahB_one hpl]; exact decide_eq_false h47
  have e40 : ahB s p ⟨#[40]⟩ = false := by rw [ahB_one hpl]; exact decide_eq_false h40
  have e6060 : ahB s p ⟨#[60, 60]⟩ = false := by rw [ahB_two hpl]; exact decide_eq_false fun h => h60 h.1
  have e60 : ahB s p ⟨#[60]⟩ = false := by rw [ahB_one hpl]; exact decide_eq_false h60
  have e91 : ahB s p ⟨#[91]⟩ = true := by rw [ahB_one hpl]; exact decide_eq_true h91
  have hn := fun (w : World) (h1 : Env m P w) (h : RdAt w P s p) => yList m P s p d deep f w h1 h hpl hs hd hval
  clear hp hval
  unfold listV
  generalize rdL f s 302 [] (p + 1) = r at hn ⊢
  obtain ⟨r1, e1, z1⟩ := r
  unfold Said at hn
  simp only at hn ⊢
  go_enter Tryz.func80, Tryz.ntmps80
  go_wp2_with (first | (go_at_call 90; go_must (refine (hsk _ hX.mov.at_).mono ?_); rintro e wa ⟨rfl, hma⟩; (replace hX := hX.moved hma); obtain ⟨⟨bx0, bx1, bx2, bx3, bx4⟩, bf0, bf1, bf2, bf3, bf4⟩ := box5 hX.box) | (go_at_call 91; go_must (refine (hah _ _ hX.mov.at_).mono ?_); rintro e wb ⟨rfl, hmb⟩; (replace hX := hX.moved hmb); obtain ⟨⟨bx0, bx1, bx2, bx3, bx4⟩, bf0, bf1, bf2, bf3, bf4⟩ := box5 hX.box) | (go_at_call 97; go_must (refine (hn _ (hX.env hE) hX.mov.at_).mono ?_); rintro e wc ⟨k1, n1, t1, a1, a2, l1, c1, l2, c2, J, rfl, hmc, HQ⟩; (have HLX := hid (At.lt hX.box)); (replace hX := hX.moved hmc); obtain ⟨⟨bx0, bx1, bx2, bx3, bx4⟩, bf0, bf1, bf2, bf3, bf4⟩ := box5 hX.box))
  obtain ⟨hM5, hB5, hS5, hO5⟩ := hX.fill5 (.int .i64 k1) (.int .i64 n1) (.string t1) (.slice a1 l1 c1) (.slice a2 l2 c2) rfl
  unfold set5 at hM5 hB5 hS5 hO5
  generalize World.setCell _ _ _ = wf at hM5 hB5 hS5 hO5 ⊢
  obtain ⟨⟨cx0, cx1, cx2, cx3, cx4⟩, _⟩ := five_cells hB5
  refine bodyPost_ret (v := .tuple #[.agg #[.int .i64 k1, .int .i64 n1, .string t1, .slice a1 l1 c1, .slice a2 l2 c2], errN e1]) (by simp [results, Tryz.results80, go_sem, cx0, cx1, cx2, cx3, cx4]; try first | exact ⟨rfl, rfl⟩ | rfl) rfl ?_
  refine ⟨k1, n1, t1, a1, a2, l1, c1, l2, c2, J, rfl, hM5, hid (fun h => ?_)⟩
  obtain ⟨q1, q2, q3⟩ := HQ.out h
  exact ⟨q1, q2, repIn_boxed hS5 hO5 HLX.out q3⟩
set_option maxHeartbeats 4000000 in
theorem yvDict (m : Int) (P : Nat) (s : ByteArray) (j p d : Nat) (deep : Int) (w : World) (hE : Env m P w) (hR : RdAt w P s j) (hj : j ≤ s.size) (hs : s.size ≤ 100000) (hd : 0 ≤ deep ∧ deep ≤ 8) (hp : skipP s j = p) (hpl : p < s.size) (h47 : ¬ s[p] = 47) (h40 : ¬ s[p] = 40) (h60 : s[p] = 60) (h6 : s.data.toList[p + 1]? = some 60) (f : Nat → Rd)
    (hval : ∀ (w : World) (j : Nat), Env m P w → RdAt w P s j → j ≤ s.size → Calls Tryz.prog 80 #[.pointer (some ⟨P, 0, none⟩), .int .i64 (deep + 1)] w (Said P w s d (f j))) :
    Calls Tryz.prog 80 #[.pointer (some ⟨P, 0, none⟩), .int .i64 deep] w (Said P w s (d + 1) (dictV f s p)) := by
  have hPl : P < w.heap.size := At.lt hR
  have hX := Boxed.new hR
  have hk0 : (0 : Int) ≤ (p : Int) := by omega
  have hk1 : (p : Int) < (s.size : Int) := by omega
  have hd8 : ¬ (8 : Int) < deep := by omega
  have hsk := fun (w : World) (h : RdAt w P s j) => show Calls Tryz.prog 90 #[.pointer (some ⟨P, 0, none⟩)] w fun e w' => e = .returned .nilIface ∧ Moved P w w' s p by
    have q := ySkipOk P s j w h hj hs (by rw [hp]; omega)
    rw [hp] at q; exact q
  have hah := fun (q : ByteArray) (w : World) (h : RdAt w P s p) => yAheadQ P s q p w h (by omega)
  have e47 : ahB s p ⟨#[47]⟩ = false := by rw [ahB_one hpl]; exact decide_eq_false h47
  have e40 : ahB s p ⟨#[40]⟩ = false := by rw [ahB_one hpl]; exact decide_eq_false h40
  have e6060 : ahB s p ⟨#[60, 60]⟩ = true := by rw [ahB_two hpl]; exact decide_eq_true ⟨h60, h6⟩
  have h2 : p + 2 ≤ s.size := by
    have := (List.getElem?_eq_some_iff.1 h6).1
    simp at this; omega
  have hn := fun (w : World) (h1 : Env m P w) (h : RdAt w P s p) => yDict m P s p d deep f w h1 h h2 hs hd hval
  clear hp hval
  unfold dictV
  generalize rdD f s 302 [] (p + 2) = r at hn ⊢
  obtain ⟨r1, e1, z1⟩ := r
  unfold Said at hn
  simp only at hn ⊢
  go_enter Tryz.func80, Tryz.ntmps80
  go_wp2_with (first | (go_at_call 90; go_must (refine (hsk _ hX.mov.at_).mono ?_); rintro e wa ⟨rfl, hma⟩; (replace hX := hX.moved hma); obtain ⟨⟨bx0, bx1, bx2, bx3, bx4⟩, bf0, bf1, bf2, bf3, bf4⟩ := box5 hX.box) | (go_at_call 91; go_must (refine (hah _ _ hX.mov.at_).mono ?_); rintro e wb ⟨rfl, hmb⟩; (replace hX := hX.moved hmb); obtain ⟨⟨bx0, bx1, bx2, bx3, bx4⟩, bf0, bf1, bf2, bf3, bf4⟩ := box5 hX.box) | (go_at_call 95; go_must (refine (hn _ (hX.env hE) hX.mov.at_).mono ?_); rintro e wc ⟨k1, n1, t1, a1, a2, l1, c1, l2, c2, J, rfl, hmc, HQ⟩; (have HLX := hid (At.lt hX.box)); (replace hX := hX.moved hmc); obtain ⟨⟨bx0, bx1, bx2, bx3, bx4⟩, bf0, bf1, bf2, bf3, bf4⟩ := box5 hX.box))
  obtain ⟨hM5, hB5, hS5, hO5⟩ := hX.fill5 (.int .i64 k1) (.int .i64 n1) (.string t1) (.slice a1 l1 c1) (.slice a2 l2 c2) rfl
  unfold set5 at hM5 hB5 hS5 hO5
  generalize World.setCell _ _ _ = wf at hM5 hB5 hS5 hO5 ⊢
  obtain ⟨⟨cx0, cx1, cx2, cx3, cx4⟩, _⟩ := five_cells hB5
  refine bodyPost_ret (v := .tuple #[.agg #[.int .i64 k1, .int .i64 n1, .string t1, .slice a1 l1 c1, .slice a2 l2 c2], errN e1]) (by simp [results, Tryz.results80, go_sem, cx0, cx1, cx2, cx3, cx4]; try first | exact ⟨rfl, rfl⟩ | rfl) rfl ?_
  refine ⟨k1, n1, t1, a1, a2, l1, c1, l2, c2, J, rfl, hM5, hid (fun h => ?_)⟩
  obtain ⟨q1, q2, q3⟩ := HQ.out h
  exact ⟨q1, q2, repIn_boxed hS5 hO5 HLX.out q3⟩
set_option maxHeartbeats 4000000 in
theorem yvSign (m : Int) (P : Nat) (s : ByteArray) (j p d : Nat) (deep : Int) (w : World) (_hE : Env m P w) (hR : RdAt w P s j) (hj : j ≤ s.size) (hs : s.size ≤ 100000) (hd : 0 ≤ deep ∧ deep ≤ 8) (hp : skipP s j = p) (hpl : p < s.size) (h47 : ¬ s[p] = 47) (h40 : ¬ s[p] = 40) (h60 : ¬ s[p] = 60) (h91 : ¬ s[p] = 91) (hsn : isSg s[p] = true) :
    Calls Tryz.prog 80 #[.pointer (some ⟨P, 0, none⟩), .int .i64 deep] w (Said P w s (d + 1) (V0 0 0 eB, 4, p)) := by
  have hPl : P < w.heap.size := At.lt hR
  have hX := Boxed.new hR
  have hk0 : (0 : Int) ≤ (p : Int) := by omega
  have hk1 : (p : Int) < (s.size : Int) := by omega
  have hd8 : ¬ (8 : Int) < deep := by omega
  have hsk := fun (w : World) (h : RdAt w P s j) => show Calls Tryz.prog 90 #[.pointer (some ⟨P, 0, none⟩)] w fun e w' => e = .returned .nilIface ∧ Moved P w w' s p by
    have q := ySkipOk P s j w h hj hs (by rw [hp]; omega)
    rw [hp] at q; exact q
  have hah := fun (q : ByteArray) (w : World) (h : RdAt w P s p) => yAheadQ P s q p w h (by omega)
  have e47 : ahB s p ⟨#[47]⟩ = false := by rw [ahB_one hpl]; exact decide_eq_false h47
  have e40 : ahB s p ⟨#[40]⟩ = false := by rw [ahB_one hpl]; exact decide_eq_false h40
  have e6060 : ahB s p ⟨#[60, 60]⟩ = false := by rw [ahB_two hpl]; exact decide_eq_false fun h => h60 h.1
  have e60 : ahB s p ⟨#[60]⟩ = false := by rw [ahB_one hpl]; exact decide_eq_false h60
  have e91 : ahB s p ⟨#[91]⟩ = false := by rw [ahB_one hpl]; exact decide_eq_false h91
  have hsg := fun (w : World) => show Calls Tryz.prog 78 #[.int .u8 (s[p].toNat : Int)] w fun e w' => e = .returned (.bool true) ∧ w' = w by
    have q := pSign s[p] w
    rw [hsn] at q; exact q
  clear hp
  go_enter Tryz.func80, Tryz.ntmps80
  go_wp2_with (first | (go_at_call 90; go_must (refine (hsk _ hX.mov.at_).mono ?_); rintro e wa ⟨rfl, hma⟩; (replace hX := hX.moved hma); obtain ⟨⟨bx0, bx1, bx2, bx3, bx4⟩, bf0, bf1, bf2, bf3, bf4⟩ := box5 hX.box) | (go_at_call 91; go_must (refine (hah _ _ hX.mov.at_).mono ?_); rintro e wb ⟨rfl, hmb⟩; (replace hX := hX.moved hmb); obtain ⟨⟨bx0, bx1, bx2, bx3, bx4⟩, bf0, bf1, bf2, bf3, bf4⟩ := box5 hX.box; (have rc0 := hX.mov.at_.c0); (have rc1 := hX.mov.at_.c1)))
  go_quiet ((go_at_call 78; exact Calls.quiet_of_same (hsg _)))
  go_wp2
  (replace hX := hX.below (bel_drewN _ nq))
  obtain ⟨hM5, hB5⟩ := hX.fill 0 0 ⟨#[]⟩
  generalize World.setCell _ _ _ = wf at hB5 hM5 ⊢
  obtain ⟨⟨cx0, cx1, cx2, cx3, cx4⟩, _⟩ := box5 hB5
  refine bodyPost_ret (v := .tuple #[.agg (vc 0 0 ⟨#[]⟩), .iface 68 (.int .i64 4)]) (by simp [results, Tryz.results80, go_sem, cx0, cx1, cx2, cx3, cx4]; try first | exact ⟨rfl, rfl⟩ | rfl) rfl ?_
  exact ⟨0, 0, ⟨#[]⟩, none, none, 0, 0, 0, 0, _, rfl, hM5, hid (fun h => absurd (show (4 : Int) = 0 from h) (by decide))⟩
set_option maxHeartbeats 4000000 in
theorem yvOther (m : Int) (P : Nat) (s : ByteArray) (j p d : Nat) (deep : Int) (w : World) (hE : Env m P w) (hR : RdAt w P s j) (hj : j ≤ s.size) (hs : s.size ≤ 100000) (hd : 0 ≤ deep ∧ deep ≤ 8) (hp : skipP s j = p) (hpl : p < s.size) (h47 : ¬ s[p] = 47) (h40 : ¬ s[p] = 40) (h60 : ¬ s[p] = 60) (h91 : ¬ s[p] = 91) (hsn : isSg s[p] = false) :
    Calls Tryz.prog 80 #[.pointer (some ⟨P, 0, none⟩), .int .i64 deep] w (Said P w s (d + 1) (otherV s p)) := by
  have hPl : P < w.heap.size := At.lt hR
  have hX := Boxed.new hR
  have hk0 : (0 : Int) ≤ (p : Int) := by omega
  have hk1 : (p : Int) < (s.size : Int) := by omega
  have hd8 : ¬ (8 : Int) < deep := by omega
  have hsk := fun (w : World) (h : RdAt w P s j) => show Calls Tryz.prog 90 #[.pointer (some ⟨P, 0, none⟩)] w fun e w' => e = .returned .nilIface ∧ Moved P w w' s p by
    have q := ySkipOk P s j w h hj hs (by rw [hp]; omega)
    rw [hp] at q; exact q
  have hah := fun (q : ByteArray) (w : World) (h : RdAt w P s p) => yAheadQ P s q p w h (by omega)
  have e47 : ahB s p ⟨#[47]⟩ = false := by rw [ahB_one hpl]; exact decide_eq_false h47
  have e40 : ahB s p ⟨#[40]⟩ = false := by rw [ahB_one hpl]; exact decide_eq_false h40
  have e6060 : ahB s p ⟨#[60, 60]⟩ = false := by rw [ahB_two hpl]; exact decide_eq_false fun h => h60 h.1
  have e60 : ahB s p ⟨#[60]⟩ = false := by rw [ahB_one hpl]; exact decide_eq_false h60
  have e91 : ahB s p ⟨#[91]⟩ = false := by rw [ahB_one hpl]; exact decide_eq_false h91
  have hsg := fun (w : World) => show Calls Tryz.prog 78 #[.int .u8 (s[p].toNat : Int)] w fun e w' => e = .returned (.bool false) ∧ w' = w by
    have q := pSign s[p] w
    rw [hsn] at q; exact q
  have hn := fun (w : World) (h1 : Env m P w) (h : RdAt w P s p) => yOther m P s p w h1 h (by omega) hs
  have HLE := hid (otherK_le (s := s) (k := p) (by omega))
  clear hp
  unfold otherV
  generalize otherK s p = r at hn HLE ⊢
  obtain ⟨k1, n1, e1, z1⟩ := r
  simp only at hn HLE ⊢
  unfold vc at hn
  go_enter Tryz.func80, Tryz.ntmps80
  go_wp2_with (first | (go_at_call 90; go_must (refine (hsk _ hX.mov.at_).mono ?_); rintro e wa ⟨rfl, hma⟩; (replace hX := hX.moved hma); obtain ⟨⟨bx0, bx1, bx2, bx3, bx4⟩, bf0, bf1, bf2, bf3, bf4⟩ := box5 hX.box) | (go_at_call 91; go_must (refine (hah _ _ hX.mov.at_).mono ?_); rintro e wb ⟨rfl, hmb⟩; (replace hX := hX.moved hmb); obtain ⟨⟨bx0, bx1, bx2, bx3, bx4⟩, bf0, bf1, bf2, bf3, bf4⟩ := box5 hX.box; (have rc0 := hX.mov.at_.c0); (have rc1 := hX.mov.at_.c1)))
  go_quiet ((go_at_call 78; exact Calls.quiet_of_same (hsg _)))
  (replace hX := hX.below (bel_drewN _ nq))
  go_wp2_with ((go_at_call 98; go_must (refine (hn _ (hX.env hE) hX.mov.at_).mono ?_); rintro e wc ⟨rfl, hmc⟩; (replace hX := hX.moved hmc); obtain ⟨⟨bx0, bx1, bx2, bx3, bx4⟩, bf0, bf1, bf2, bf3, bf4⟩ := box5 hX.box))
  obtain ⟨hM5, hB5⟩ := hX.fill k1 n1 eB
  generalize World.setCell _ _ _ = wf at hB5 hM5 ⊢
  obtain ⟨⟨cx0, cx1, cx2, cx3, cx4⟩, _⟩ := box5 hB5
  refine bodyPost_ret (v := .tuple #[.agg (vc k1 n1 eB), errN e1]) (by simp [results, Tryz.results80, go_sem, cx0, cx1, cx2, cx3, cx4]; try first | exact ⟨rfl, rfl⟩ | rfl) rfl ?_
  exact ⟨k1, n1, eB, none, none, 0, 0, 0, 0, _, rfl, hM5, hid (fun h => ⟨rfl, HLE.out, repIn_vc _ _ _ _ _ _ (by decide)⟩)⟩
end Go.Proofs.YtobpidmlgldnmaaGreatDoor

/-
  The program's reader: a value, whole.
-/
namespace Go.Proofs.YtobpidmlgldnmaaGreatDoor
open Go.RowKit
set_option maxRecDepth 100000

set_option maxHeartbeats 4000000 in
theorem yvEnd (P : Nat) (s : ByteArray) (j d : Nat) (deep : Int) (v : V) (z : Nat) (w : World) (hR : RdAt w P s j) (hj : j ≤ s.size) (hs : s.size ≤ 100000) (hp : skipP s j = s.size) :
    Calls Tryz.prog 80 #[.pointer (some ⟨P, 0, none⟩), .int .i64 deep] w (Said P w s d (v, 5, z)) := by
  have hPl : P < w.heap.size := At.lt hR
  have hX := Boxed.new hR
  have hsk := fun (w : World) (h : RdAt w P s j) => ySkipEnd P s j w h hj hs hp
  go_enter Tryz.func80, Tryz.ntmps80
  go_wp2_with ((go_at_call 90; go_must (refine (hsk _ hX.mov.at_).mono ?_); rintro e wa ⟨rfl, hma⟩; (replace hX := hX.moved hma); obtain ⟨⟨bx0, bx1, bx2, bx3, bx4⟩, bf0, bf1, bf2, bf3, bf4⟩ := box5 hX.box))
  obtain ⟨hM5, hB5⟩ := hX.fill 0 0 ⟨#[]⟩
  generalize World.setCell _ _ _ = wf at hB5 hM5 ⊢
  obtain ⟨⟨cx0, cx1, cx2, cx3, cx4⟩, _⟩ := box5 hB5
  refine bodyPost_ret (v := .tuple #[.agg (vc 0 0 ⟨#[]⟩), .iface 68 (.int .i64 5)]) (by simp [results, Tryz.results80, go_sem, cx0, cx1, cx2, cx3, cx4]; try first | exact ⟨rfl, rfl⟩ | rfl) rfl ?_
  exact ⟨0, 0, ⟨#[]⟩, none, none, 0, 0, 0, 0, _, rfl, hM5, hid (fun h => absurd (show (5 : Int) = 0 from h) (by decide))⟩
set_option maxHeartbeats 4000000 in
theorem yvDeep (P : Nat) (s : ByteArray) (j d : Nat) (deep : Int) (v : V) (z : Nat) (w : World) (hR : RdAt w P s j) (hj : j ≤ s.size) (hs : s.size ≤ 100000) (hp : ¬ skipP s j = s.size) (hd : 8 < deep) :
    Calls Tryz.prog 80 #[.pointer (some ⟨P, 0, none⟩), .int .i64 deep] w (Said P w s d (v, 2, z)) := by
  have hPl : P < w.heap.size := At.lt hR
  have hX := Boxed.new hR
  have hsk := fun (w : World) (h : RdAt w P s j) => ySkipOk P s j w h hj hs hp
  go_enter Tryz.func80, Tryz.ntmps80
  go_wp2_with ((go_at_call 90; go_must (refine (hsk _ hX.mov.at_).mono ?_); rintro e wa ⟨rfl, hma⟩; (replace hX := hX.moved hma); obtain ⟨⟨bx0, bx1, bx2, bx3, bx4⟩, bf0, bf1, bf2, bf3, bf4⟩ := box5 hX.box))
  obtain ⟨hM5, hB5⟩ := hX.fill 0 0 ⟨#[]⟩
  generalize World.setCell _ _ _ = wf at hB5 hM5 ⊢
  obtain ⟨⟨cx0, cx1, cx2, cx3, cx4⟩, _⟩ := box5 hB5
  refine bodyPost_ret (v := .tuple #[.agg (vc 0 0 ⟨#[]⟩), .iface 68 (.int .i64 2)]) (by simp [results, Tryz.results80, go_sem, cx0, cx1, cx2, cx3, cx4]; try first | exact ⟨rfl, rfl⟩ | rfl) rfl ?_
  exact ⟨0, 0, ⟨#[]⟩, none, none, 0, 0, 0, 0, _, rfl, hM5, hid (fun h => absurd (show (2 : Int) = 0 from h) (by decide))⟩
theorem rdAt_get {s : ByteArray} {p : Nat} (hp : p < s.size) : s.data.toList[p]? = some s[p] := by rw [List.getElem?_eq_getElem (by simpa using hp)]; rfl
/-- A value, at whatever depth. -/
theorem yValue (m : Int) (P : Nat) (s : ByteArray) (hs : s.size ≤ 100000) : ∀ (n : Nat) (deep : Int), n ≤ 8 → deep = 9 - n → ∀ (w : World) (j : Nat), Env m P w → RdAt w P s j → j ≤ s.size → Calls Tryz.prog 80 #[.pointer (some ⟨P, 0, none⟩), .int .i64 deep] w (Said P w s (n + 1) (rdV s n j))
  | 0, deep, _, hd, w, j, _, hR, hj => by
    unfold rdV
    by_cases h : skipP s j = s.size
    · rw [if_pos h]; exact yvEnd P s j 1 deep _ _ w hR hj hs h
    · rw [if_neg h]; exact yvDeep P s j 1 deep _ _ w hR hj hs h (by omega)
  | n + 1, deep, hn, hd, w, j, hE, hR, hj => by
    unfold rdV
    by_cases h : skipP s j = s.size
    · rw [if_pos h]; exact yvEnd P s j _ deep _ _ w hR hj hs h
    · rw [if_neg h]
      have hpl : skipP s j < s.size := by have := (skipP_le hj).2; omega
      obtain ⟨p, hp⟩ : ∃ p, skipP s j = p := ⟨_, rfl⟩
      rw [hp] at hpl ⊢
      have hdd : 0 ≤ deep ∧ deep ≤ 8 := by omega
      have hg := rdAt_get hpl
      have hval := yValue m P s hs n (deep + 1) (by omega) (by omega)
      unfold rdAt
      by_cases h47 : s[p] = 47
      · rw [if_pos (by rw [hg, h47])]; exact yvName m P s j p (n + 1) deep w hE hR hj hs hdd hp hpl h47
      rw [if_neg (by rw [hg]; simpa using h47)]
      by_cases h40 : s[p] = 40
      · rw [if_pos (by rw [hg, h40])]; exact yvLit m P s j p (n + 1) deep w hE hR hj hs hdd hp hpl h47 h40
      rw [if_neg (by rw [hg]; simpa using h40)]
      by_cases h60 : s[p] = 60
      · rw [if_pos (by rw [hg, h60])]
        by_cases h6 : s.data.toList[p + 1]? = some 60
        · rw [if_pos h6]; exact yvDict m P s j p (n + 1) deep w hE hR hj hs hdd hp hpl h47 h40 h60 h6 _ hval
        · rw [if_neg h6]; exact yvHex m P s j p (n + 1) deep w hE hR hj hs hdd hp hpl h47 h40 h60 h6
      rw [if_neg (by rw [hg]; simpa using h60)]
      by_cases h91 : s[p] = 91
      · rw [if_pos (by rw [hg, h91])]; exact yvList m P s j p (n + 1) deep w hE hR hj hs hdd hp hpl h47 h40 h60 h91 _ hval
      rw [if_neg (by rw [hg]; simpa using h91)]
      cases hsn : isSg s[p]
      · rw [if_neg (by rw [hg]; simp [hsn])]; exact yvOther m P s j p (n + 1) deep w hE hR hj hs hdd hp hpl h47 h40 h60 h91 hsn
      · rw [if_pos (by rw [hg]; simp [hsn])]; exact yvSign m P s j p (n + 1) deep w hE hR hj hs hdd hp hpl h47 h40 h60 h91 hsn

/-- How many parts there are is no more than how many bytes were read. -/
def Fits (s : ByteArray) (f : Nat → Rd) : Prop := ∀ j, j ≤ s.size → (f j).2.1 = 0 → j + (f j).1.cnt ≤ (f j).2.2 ∧ (f j).2.2 ≤ s.size
theorem cntL_append (a b : List V) : cntL (a ++ b) = cntL a + cntL b := by
  induction a with
  | nil => simp [cntL]
  | cons x a ih => rw [List.cons_append, cntL, cntL, ih]; omega
theorem cntF_append (a b : List (ByteArray × V)) : cntF (a ++ b) = cntF a + cntF b := by
  induction a with
  | nil => simp [cntF]
  | cons x a ih => rw [List.cons_append, cntF, cntF, ih]; omega
theorem cntF_rset (name : ByteArray) (x : V) : ∀ (l : List (ByteArray × V)) (b : Bool), cntF (rsetF name x l b) ≤ cntF l + (if b then 0 else x.cnt)
  | [], b => by cases b <;> simp [rsetF, cntF, cntP]
  | q :: l, b => by
    have ih := cntF_rset name x l (b || leB name q.1)
    rw [rsetF, cntF_append, cntF_append, cntF_cons]
    have h2 : cntF (if q.1.toList == name.toList then [] else [q]) ≤ q.2.cnt := by
      split
      · simp [cntF]
      · rw [cntF_cons]; simp [cntF]
    generalize cntF (if q.1.toList == name.toList then [] else [q]) = y at h2 ⊢
    cases b <;> cases hl : leB name q.1 <;> simp [hl, cntF, cntP] at ih ⊢ <;> omega
theorem endsR_ge {s p : ByteArray} {k : Nat} (hk : k ≤ s.size) {y : Bool} {z : Nat} (h : endsR s p k = (0, y, z)) : k ≤ z ∧ (y = true → k + p.size ≤ z) := by
  have hl := skipP_le hk
  unfold endsR at h
  split at h
  · injection h with h1 _; exact absurd h1 (by decide)
  · split at h
    · injection h with _ h2; injection h2 with _ h3; exact ⟨by omega, fun _ => by omega⟩
    · injection h with _ h2; injection h2 with h4 h3; exact ⟨by omega, fun q => by rw [← h4] at q; cases q⟩
theorem rdL_fits {s : ByteArray} {f : Nat → Rd} (hf : Fits s f) : ∀ (n : Nat) (acc : List V) (j : Nat), j ≤ s.size → (rdL f s n acc j).2.1 = 0 → cntL (rdL f s n acc j).1 + j + 1 ≤ (rdL f s n acc j).2.2 + cntL acc ∧ (rdL f s n acc j).2.2 ≤ s.size
  | 0, acc, j, _, h => absurd (show (2 : Int) = 0 from h) (by decide)
  | n + 1, acc, j, hj, h => by
    obtain ⟨ex, ey, ez, hes⟩ : ∃ x y z, endsR s wEnd j = (x, y, z) := ⟨_, _, _, rfl⟩
    have hez := endsR_to hj rfl hes
    rw [rdL_step hes] at h ⊢
    by_cases hx : ex = 0
    · subst hx
      have hge := endsR_ge hj hes
      rw [if_neg (by simp)] at h ⊢
      cases ey
      · rw [if_neg (by simp)] at h ⊢
        by_cases he : (f ez).2.1 = 0
        · rw [if_neg (by simp [he])] at h ⊢
          by_cases hm : 300 < acc.length + 1
          · rw [if_pos hm] at h; exact absurd (show (2 : Int) = 0 from h) (by decide)
          · rw [if_neg hm] at h ⊢
            obtain ⟨q1, q2⟩ := hf ez hez he
            have ih := rdL_fits hf n (acc ++ [(f ez).1]) (f ez).2.2 q2 h
            rw [cntL_append] at ih
            have e1 : cntL [(f ez).1] = (f ez).1.cnt := by simp [cntL]
            rw [e1] at ih
            exact ⟨by have := ih.1; have := hge.1; omega, ih.2⟩
        · rw [if_pos he] at h; exact absurd h he
      · rw [if_pos rfl] at h ⊢
        have h1 := hge.2 rfl
        have h2 : wEnd.size = 1 := rfl
        simp only
        exact ⟨by omega, hez⟩
    · rw [if_pos hx] at h; exact absurd h hx
theorem rdFd_fits {s : ByteArray} {f : Nat → Rd} (hf : Fits s f) {k : Nat} (hk : k < s.size) (h : (rdFd f s k).2.1 = 0) : k + 1 + (rdFd f s k).1.2.cnt ≤ (rdFd f s k).2.2 ∧ (rdFd f s k).2.2 ≤ s.size := by
  have hl := yWordLe (s := s) (k := k + 1) (by omega)
  unfold rdFd at h ⊢
  split
  · rename_i h47
    rw [if_pos h47] at h
    cases hr : nameR (wordP s (k + 1)).data.toList with
    | none => rw [hr] at h; exact absurd (show (4 : Int) = 0 from h) (by decide)
    | some b =>
      rw [hr] at h
      simp only at h ⊢
      obtain ⟨q1, q2⟩ := hf _ hl h
      exact ⟨by omega, q2⟩
  · rename_i h47
    rw [if_neg h47] at h; exact absurd (show (4 : Int) = 0 from h) (by decide)
theorem rdD_fits {s : ByteArray} {f : Nat → Rd} (hf : Fits s f) : ∀ (n : Nat) (acc : List (ByteArray × V)) (j : Nat), j ≤ s.size → (rdD f s n acc j).2.1 = 0 → cntF (rdD f s n acc j).1 + j + 2 ≤ (rdD f s n acc j).2.2 + cntF acc ∧ (rdD f s n acc j).2.2 ≤ s.size
  | 0, acc, j, _, h => absurd (show (2 : Int) = 0 from h) (by decide)
  | n + 1, acc, j, hj, h => by
    obtain ⟨ex, ey, ez, hes⟩ : ∃ x y z, endsR s wEnd2 j = (x, y, z) := ⟨_, _, _, rfl⟩
    have hez := endsR_to2 hj hes
    rw [rdD_step hes] at h ⊢
    by_cases hx : ex = 0
    · subst hx
      have hge := endsR_ge hj hes
      rw [if_neg (by simp)] at h ⊢
      cases ey
      · rw [if_neg (by simp)] at h ⊢
        have hlt := endsR_lt hj hes
        by_cases he : (rdFd f s ez).2.1 = 0
        · rw [if_neg (by simp [he])] at h ⊢
          by_cases hg : (getF (rdFd f s ez).1.1 acc).isSome = true
          · rw [if_pos hg] at h; exact absurd (show (3 : Int) = 0 from h) (by decide)
          · rw [if_neg hg] at h ⊢
            by_cases hm : 300 < acc.length + 1
            · rw [if_pos hm] at h; exact absurd (show (2 : Int) = 0 from h) (by decide)
            · rw [if_neg hm] at h ⊢
              obtain ⟨q1, q2⟩ := rdFd_fits hf hlt he
              have ih := rdD_fits hf n (rsetF (rdFd f s ez).1.1 (rdFd f s ez).1.2 acc false) (rdFd f s ez).2.2 q2 h
              have hc := cntF_rset (rdFd f s ez).1.1 (rdFd f s ez).1.2 acc false
              simp only [Bool.false_eq_true, if_false] at hc
              exact ⟨by have := ih.1; have := hge.1; omega, ih.2⟩
        · rw [if_pos he] at h; exact absurd h he
      · rw [if_pos rfl] at h ⊢
        have h1 := hge.2 rfl
        have h2 : wEnd2.size = 2 := rfl
        simp only
        exact ⟨by omega, hez⟩
    · rw [if_pos hx] at h; exact absurd h hx
theorem litF_fits : ∀ (n : Nat) (l : List UInt8) (deep : Nat) (b : List UInt8) (k : Nat), (litF n l deep b k).1 = 0 → k < (litF n l deep b k).2.2 ∧ (litF n l deep b k).2.2 ≤ k + l.length
  | 0, _, _, _, _, h => absurd (show (5 : Int) = 0 from h) (by decide)
  | _ + 1, [], _, _, _, h => absurd (show (5 : Int) = 0 from h) (by decide)
  | n + 1, c :: r, deep, b, k, h => by
    unfold litF at h ⊢
    by_cases h41 : (c == 41) = true
    · rw [if_pos h41] at h ⊢
      by_cases hd : deep = 1
      · rw [if_pos hd]; simp
      · rw [if_neg hd] at h ⊢
        have := litF_fits n r _ _ _ h
        simp only [List.length_cons]; omega
    · rw [if_neg h41] at h ⊢
      by_cases h40 : (c == 40) = true
      · rw [if_pos h40] at h ⊢
        have := litF_fits n r _ _ _ h
        simp only [List.length_cons]; omega
      · rw [if_neg h40] at h ⊢
        by_cases h92 : (c == 92) = true
        · rw [if_pos h92] at h ⊢
          cases he : escL r with
          | none => rw [he] at h; exact absurd (show (5 : Int) = 0 from h) (by decide)
          | some q =>
            obtain ⟨x, m⟩ := q
            rw [he] at h
            simp only at h ⊢
            have := litF_fits n (r.drop m) _ _ _ h
            have := escL_le he
            simp only [List.length_drop, List.length_cons] at *; omega
        · rw [if_neg h92] at h ⊢
          have := litF_fits n r _ _ _ h
          simp only [List.length_cons]; omega
theorem hexTk_fits : ∀ (l : List UInt8) (p : Option Nat) (b : List UInt8) (k : Nat), (hexTk l p b k).1 = 0 → k < (hexTk l p b k).2.2 ∧ (hexTk l p b k).2.2 ≤ k + l.length
  | [], _, _, _, h => absurd (show (5 : Int) = 0 from h) (by decide)
  | c :: r, p, b, k, h => by
    unfold hexTk at h ⊢
    by_cases h62 : (c == 62) = true
    · rw [if_pos h62]; simp
    · rw [if_neg h62] at h ⊢
      by_cases hb : isBl c = true
      · rw [if_pos hb] at h ⊢
        have := hexTk_fits r _ _ _ h
        simp only [List.length_cons]; omega
      · rw [if_neg hb] at h ⊢
        by_cases hv : hexV c < 0
        · rw [if_pos hv] at h; exact absurd (show (4 : Int) = 0 from h) (by decide)
        · rw [if_neg hv] at h ⊢
          cases p with
          | none =>
            have := hexTk_fits r _ _ _ h
            simp only [List.length_cons]; omega
          | some x =>
            have := hexTk_fits r _ _ _ h
            simp only [List.length_cons]; omega
theorem V0_cnt (k n : Int) (s : ByteArray) : (V0 k n s).cnt = 1 := by rw [cnt_eq]; simp [V0, cntL, cntF]
theorem otherK_fits {s : ByteArray} {k : Nat} (hk : k ≤ s.size) (h : (otherK s k).2.2.1 = 0) : k < (otherK s k).2.2.2 := by
  have hl := yWordLe hk
  unfold otherK at h ⊢
  generalize wordP s k = W at hl h ⊢
  have hr : ∀ x, refP s (k + W.size) = some x → k + W.size < x := fun x h => by
    unfold refP at h
    split at h
    · rename_i h1
      split at h
      · injection h with h
        have a1 := yWordLe (s := s) (k := skipP s (k + W.size)) (skipP_le hl).2
        rw [h1] at a1
        have b1 : w0.size = 1 := rfl
        have a2 := (skipP_le hl).1
        have a3 := (skipP_le (s := s) (k := skipP s (k + W.size) + 1) (by omega)).1
        omega
      · cases h
    · cases h
  by_cases h1 : W = wNull
  · simp only [if_pos h1]; have : W.size = 4 := by rw [h1]; rfl
    omega
  · by_cases h2 : W = wTrue
    · simp only [if_neg h1, if_pos h2]; have : W.size = 4 := by rw [h2]; rfl
      omega
    · by_cases h3 : W = wFalse
      · simp only [if_neg h1, if_neg h2, if_pos h3]; have : W.size = 5 := by rw [h3]; rfl
        omega
      · by_cases h4 : objL W.data.toList ≠ 0 ∧ (refP s (k + W.size)).isSome = true
        · simp only [if_neg h1, if_neg h2, if_neg h3, if_pos h4]
          obtain ⟨x, hx⟩ := Option.isSome_iff_exists.1 h4.2
          rw [hx]
          have := hr x hx
          show k < x
          omega
        · simp only [if_neg h1, if_neg h2, if_neg h3, if_neg h4] at h ⊢
          by_cases h0 : W.size = 0
          · rw [toList_none h0] at h
            exact absurd h (by decide)
          · omega
/-- What is read fits into what was read of the text. -/
theorem rdV_fits (s : ByteArray) : ∀ n, Fits s (rdV s n)
  | 0 => fun j hj h => by
    unfold rdV at h
    simp only at h
    split at h
    · exact absurd h (by decide)
    · exact absurd h (by decide)
  | n + 1 => fun j hj h => by
    have hf := rdV_fits s n
    have hl := skipP_le hj
    unfold rdV at h ⊢
    by_cases h0 : skipP s j = s.size
    · rw [if_pos h0] at h; exact absurd (show (5 : Int) = 0 from h) (by decide)
    · rw [if_neg h0] at h ⊢
      have hpl : skipP s j < s.size := by omega
      generalize skipP s j = p at *
      have hd : (s.data.toList.drop (p + 1)).length = s.size - (p + 1) := by simp
      unfold rdAt at h ⊢
      by_cases h47 : s.data.toList[p]? = some 47
      · rw [if_pos h47] at h ⊢
        have hw := yWordLe (s := s) (k := p + 1) (by omega)
        unfold nameV at h ⊢
        cases hr : nameR (wordP s (p + 1)).data.toList with
        | none => rw [hr] at h; exact absurd (show (4 : Int) = 0 from h) (by decide)
        | some b => simp only [V0_cnt]; omega
      rw [if_neg h47] at h ⊢
      by_cases h40 : s.data.toList[p]? = some 40
      · rw [if_pos h40] at h ⊢
        unfold litV at h ⊢
        have := litF_fits _ _ _ _ _ (textR_zero h).1
        simp only [V0_cnt]
        unfold litT
        omega
      rw [if_neg h40] at h ⊢
      by_cases h60 : s.data.toList[p]? = some 60
      · rw [if_pos h60] at h ⊢
        by_cases h6 : s.data.toList[p + 1]? = some 60
        · rw [if_pos h6] at h ⊢
          have h6l : p + 1 < s.size := by simpa using (List.getElem?_eq_some_iff.1 h6).1
          unfold dictV at h ⊢
          have := rdD_fits hf 302 [] (p + 2) (by omega) h
          simp only [cnt_eq, cntL]
          simp only [cntF] at this
          omega
        · rw [if_neg h6] at h ⊢
          unfold hexW at h ⊢
          have := hexTk_fits _ _ _ _ (textR_zero h).1
          simp only [V0_cnt]
          omega
      rw [if_neg h60] at h ⊢
      by_cases h91 : s.data.toList[p]? = some 91
      · rw [if_pos h91] at h ⊢
        unfold listV at h ⊢
        have := rdL_fits hf 302 [] (p + 1) (by omega) h
        simp only [cnt_eq, cntF]
        simp only [cntL] at this
        omega
      rw [if_neg h91] at h ⊢
      split
      · rename_i hs; rw [if_pos hs] at h; exact absurd (show (4 : Int) = 0 from h) (by decide)
      · rename_i hs
        rw [if_neg hs] at h
        unfold otherV at h ⊢
        have h1 := otherK_fits (by omega) h
        have h2 := otherK_le (s := s) (k := p) (by omega)
        simp only [V0_cnt]
        omega
end Go.Proofs.YtobpidmlgldnmaaGreatDoor
