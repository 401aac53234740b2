/-
  Glyphs that are not too much (the law's LightGlyphs); what stands apart (R.Apart).
-/
import Derived.Test.YtogdfjkbkhnobaaSt
import Derived.Test.YtogdfjkbkhnobaaSq
import Derived.Deep.RegionHeld3
namespace Go.Proofs.Ytogdfjkbkhnobaa
open Go.Shelf Go.RowKit Go.Lib Go.Sort
set_option maxRecDepth 1000000

theorem apart_says (g n : Gy) (w : World) (hg : GyOk g) (hn : GyOk n) : Calls Try.prog 14 #[g.v, n.v] w fun e w' => e = .returned (.bool (rom g n)) ∧ ∃ q os, w' = grow (w.drewN q) os := by
  obtain ⟨a1, a2⟩ := hg.ex
  obtain ⟨a3, a4⟩ := hn.ax
  have r1 : IntKind.i64.wrap (n.ax - g.ex) = n.ax - g.ex := by rw [IntKind.wrap_i64]; omega
  have r2 : IntKind.i64.wrap (4 * (n.ax - g.ex)) = 4 * (n.ax - g.ex) := by rw [IntKind.wrap_i64]; omega
  unfold rom
  clear a1 a2 a3 a4 hg hn
  go_enter Try.func14, Try.ntmps14
  go_wp2_with fail
  go_ret
  exact ⟨rfl, 0, _, by rw [alloc_eq_grow, alloc_eq_grow, grow_grow]; rfl⟩
/-- Is a number none? -/
def fixF (n : Int) : Int := if n < -1000000000 ∨ 1000000000 < n then 1 else 0
theorem fixF_01 (n : Int) : 0 ≤ fixF n ∧ fixF n ≤ 1 := by unfold fixF; split <;> omega
theorem fixF_0 {n : Int} (h : fixF n = 0) : N9 n := by unfold fixF at h; unfold N9; split at h <;> omega
theorem fixFault_says (n : Int) (w : World) : Calls Try.prog 17 #[.int .i64 n] w fun e w' => e = .returned (.int .i64 (fixF n)) ∧ w' = w := by
  by_cases h1 : n < -1000000000
  · have e : fixF n = 1 := by unfold fixF; rw [if_pos (.inl h1)]
    rw [e]
    have h2 : ¬ (1000000000 < n) := by omega
    go_enter Try.func17, Try.ntmps17
    go_wp2_with fail
    go_ret
    exact ⟨rfl, rfl⟩
  · by_cases h2 : 1000000000 < n
    · have e : fixF n = 1 := by unfold fixF; rw [if_pos (.inr h2)]
      rw [e]
      go_enter Try.func17, Try.ntmps17
      go_wp2_with fail
      go_ret
      exact ⟨rfl, rfl⟩
    · have e : fixF n = 0 := by unfold fixF; rw [if_neg (by omega)]
      rw [e]
      go_enter Try.func17, Try.ntmps17
      go_wp2_with fail
      go_ret
      exact ⟨rfl, rfl⟩
/-- What is wrong with a glyph's numbers. -/
def sumF (g : Gy) : Int := fixF g.sz + fixF g.ax + fixF g.ay + fixF g.ex + fixF g.ey
/-- A glyph that is not too much. -/
def ltG (g : Gy) : Bool := decide (g.s.size ≤ 60) && (rns g.s.data.toList).isSome && decide (sumF g = 0)
theorem ltG_ok {g : Gy} (h : ltG g = true) : GyOk g ∧ (rns g.s.data.toList).isSome = true := by
  unfold ltG at h
  simp only [Bool.and_eq_true, decide_eq_true_eq] at h
  obtain ⟨⟨h1, h2⟩, h3⟩ := h
  unfold sumF at h3
  have f1 := fixF_01 g.sz
  have f2 := fixF_01 g.ax
  have f3 := fixF_01 g.ay
  have f4 := fixF_01 g.ex
  have f5 := fixF_01 g.ey
  exact ⟨⟨fixF_0 (by omega), fixF_0 (by omega), fixF_0 (by omega), fixF_0 (by omega), fixF_0 (by omega), h1⟩, h2⟩
def ltGs (L : List Gy) : Bool := decide (L.length ≤ 150) && L.all ltG
theorem ltGs_ok {L : List Gy} (h : ltGs L = true) : L.length ≤ 150 ∧ (∀ g ∈ L, GyOk g) ∧ ∀ g ∈ L, (rns g.s.data.toList).isSome = true := by
  unfold ltGs at h
  simp only [Bool.and_eq_true, decide_eq_true_eq, List.all_eq_true] at h
  exact ⟨h.1, fun g hg => (ltG_ok (h.2 g hg)).1, fun g hg => (ltG_ok (h.2 g hg)).2⟩
theorem Gy.at_ {w : World} {b : Nat} (g : Gy) (t : TypeId) (h : b = w.heap.size) : At (w.alloc (.cells g.cs.toArray t)) b t g.cs.toArray := At.new w _ t h
set_option maxHeartbeats 1500000 in
theorem lightG_says (L : List Gy) (al : Option Addr) (c : Nat) (w : World) (hs : ∀ g ∈ L, g.s.size ≤ 2000000) (hG : GyAt w al L) :
    Calls Try.prog 7 #[.slice al L.length c] w fun e w' => e = .returned (.bool (ltGs L)) ∧ Below w.heap.size w w' := by
  have HG := hid hG
  have HS := hid hs
  have mx := mixed
  clear hG hs
  go_enter Try.func7, Try.ntmps7
  by_cases hl : L.length ≤ 150
  · have hl' : ¬ (150 : Int) < L.length := by omega
    have HE := hid (show ltGs L = L.all ltG by unfold ltGs; simp [hl])
    go_wp2_with fail
    go_loopw [3] (fun i wr => ∃ p : Nat, i = .int .i64 p ∧ p ≤ L.length ∧ Hid ((L.take p).all ltG = true) ∧ Below w.heap.size w wr) (fun i _ => L.length - (intOf i).toNat)
    case atStart => exact ⟨0, rfl, Nat.zero_le _, hid rfl, Below.refl _ _⟩
    case round =>
      obtain ⟨p, rfl, hp, HP, hB⟩ := hrel
      by_cases hpl : p < L.length
      · have hpl' : (p : Int) < L.length := by omega
        obtain ⟨b, off, rfl, hb, cx⟩ := (HG.out.later hB) p _ (List.getElem?_eq_getElem hpl)
        have hsz := HS.out _ (List.getElem_mem hpl)
        have HT := hid (show (L.take (p + 1)).all ltG = ltG L[p] by rw [List.take_succ_eq_append_getElem hpl, List.all_append, HP.out]; simp)
        have HA := hid (show ltG L[p] = false → L.all ltG = false from fun e => by rw [List.all_eq_false]; exact ⟨_, List.getElem_mem hpl, by rw [e]; simp⟩)
        have c0 := cx 0 _ rfl
        have c1 := cx 1 _ rfl
        have c2 := cx 2 _ rfl
        have c3 := cx 3 _ rfl
        have c4 := cx 4 _ rfl
        have c5 := cx 5 _ rfl
        have c6 := cx 6 _ rfl
        have c7 := cx 7 _ rfl
        have c8 := cx 8 _ rfl
        have c9 := cx 9 _ rfl
        simp only [Nat.add_zero] at c0
        clear cx
        generalize L[p] = q at *
        have hBs := hB.size
        go_wp2_with (go_at_call 16; fail)
        go_at_call 16
        refine (runes_says q.s _ hsz).mono ?_
        rintro e w1 ⟨hres, hb1⟩
        have hA := (Gy.at_ (w := wr) q 44 rfl).later hb1
        have HB1 := hid (show Below w.heap.size w w1 from (hB.alloc hBs _).trans (hb1.mono (by simp; omega)))
        have HA1 := hid hA
        have d0 : w1.cell? ⟨wr.heap.size, 0, none⟩ = some (.string q.s) := by simpa using hA.cell 0
        have f1 := fixF_01 q.sz
        have f2 := fixF_01 q.ax
        have f3 := fixF_01 q.ay
        have f4 := fixF_01 q.ex
        have f5 := fixF_01 q.ey
        have r1 : IntKind.i64.wrap (fixF q.sz + fixF q.ax) = fixF q.sz + fixF q.ax := by rw [IntKind.wrap_i64]; omega
        have r2 : IntKind.i64.wrap (fixF q.sz + fixF q.ax + fixF q.ay) = fixF q.sz + fixF q.ax + fixF q.ay := by rw [IntKind.wrap_i64]; omega
        have r3 : IntKind.i64.wrap (fixF q.sz + fixF q.ax + fixF q.ay + fixF q.ex) = fixF q.sz + fixF q.ax + fixF q.ay + fixF q.ex := by rw [IntKind.wrap_i64]; omega
        have r4 : IntKind.i64.wrap (fixF q.sz + fixF q.ax + fixF q.ay + fixF q.ex + fixF q.ey) = fixF q.sz + fixF q.ax + fixF q.ay + fixF q.ex + fixF q.ey := by rw [IntKind.wrap_i64]; omega
        have HF := hid (show ltG q = (decide (q.s.size ≤ 60) && (rns q.s.data.toList).isSome && decide (fixF q.sz + fixF q.ax + fixF q.ay + fixF q.ex + fixF q.ey = 0)) from rfl)
        clear hA c0 c1 c2 c3 c4 c5 c6 c7 c8 c9 hb1
        by_cases h60 : q.s.size ≤ 60
        · have h60' : ¬ (60 : Int) < q.s.size := by omega
          have h60d : decide ((60 : Int) < q.s.size) = false := decide_eq_false h60'
          rcases hres with ⟨hn, rfl⟩ | ⟨rs, v, hr, rfl, ho⟩
          · have HQ := hid (show ltG q = false by rw [HF.out, hn]; simp)
            clear hn f1 f2 f3 f4 f5
            go_wp2_with fail
            go_region
            go_wp2_with fail
            go_ret
            exact ⟨by rw [HE.out, HA.out HQ.out]; rfl, HB1.out.drew⟩
          · clear ho
            by_cases h0 : fixF q.sz + fixF q.ax + fixF q.ay + fixF q.ex + fixF q.ey = 0
            · have HQ := hid (show ltG q = true by rw [HF.out, hr, h0]; simp [h60])
              have hd : ¬ (0 : Int) < fixF q.sz + fixF q.ax + fixF q.ay + fixF q.ex + fixF q.ey := by omega
              have hd2 : decide ((0 : Int) < fixF q.sz + fixF q.ax + fixF q.ay + fixF q.ex + fixF q.ey) = false := decide_eq_false hd
              clear h0 hr f1 f2 f3 f4 f5
              go_wp2_with fail
              have H0 := hid (show ∀ W, Below w1.heap.size w1 W → W.cell? ⟨wr.heap.size, 0, none⟩ = some (.string q.s) ∧ W.cell? ⟨wr.heap.size, 1, none⟩ = some (.int .i64 q.ax) ∧ W.cell? ⟨wr.heap.size, 2, none⟩ = some (.int .i64 q.ay) ∧ W.cell? ⟨wr.heap.size, 3, none⟩ = some (.int .i64 q.ex) ∧ W.cell? ⟨wr.heap.size, 4, none⟩ = some (.int .i64 q.ey) ∧ W.cell? ⟨wr.heap.size, 5, none⟩ = some (.int .i64 q.sz) from fun W hW => ⟨by simpa using (HA1.out.later hW).cell 0, by simpa using (HA1.out.later hW).cell 1, by simpa using (HA1.out.later hW).cell 2, by simpa using (HA1.out.later hW).cell 3, by simpa using (HA1.out.later hW).cell 4, by simpa using (HA1.out.later hW).cell 5⟩)
              go_region_held3 (fun (W : World) => W.cell? ⟨wr.heap.size, 0, none⟩ = some (.string q.s) ∧ W.cell? ⟨wr.heap.size, 1, none⟩ = some (.int .i64 q.ax) ∧ W.cell? ⟨wr.heap.size, 2, none⟩ = some (.int .i64 q.ay) ∧ W.cell? ⟨wr.heap.size, 3, none⟩ = some (.int .i64 q.ex) ∧ W.cell? ⟨wr.heap.size, 4, none⟩ = some (.int .i64 q.ey) ∧ W.cell? ⟨wr.heap.size, 5, none⟩ = some (.int .i64 q.sz))
                ((refine H0.out _ ?_; go_grown))
                (first | (go_at_call 17; refine (fixFault_says _ _).mono ?_; rintro e w' ⟨rfl, rfl⟩))
              go_wp2_with fail
              go_roundw
              case rel => exact ⟨p + 1, by go_num, by omega, hid (by rw [HT.out]; exact HQ.out), HB1.out.drew⟩
              case measure => simp [intOf]; omega
            · have HQ := hid (show ltG q = false by rw [HF.out]; simp [h0])
              have hd : (0 : Int) < fixF q.sz + fixF q.ax + fixF q.ay + fixF q.ex + fixF q.ey := by omega
              have hd2 : decide ((0 : Int) < fixF q.sz + fixF q.ax + fixF q.ay + fixF q.ex + fixF q.ey) = true := decide_eq_true hd
              clear h0 hr f1 f2 f3 f4 f5
              go_wp2_with fail
              have H0 := hid (show ∀ W, Below w1.heap.size w1 W → W.cell? ⟨wr.heap.size, 0, none⟩ = some (.string q.s) ∧ W.cell? ⟨wr.heap.size, 1, none⟩ = some (.int .i64 q.ax) ∧ W.cell? ⟨wr.heap.size, 2, none⟩ = some (.int .i64 q.ay) ∧ W.cell? ⟨wr.heap.size, 3, none⟩ = some (.int .i64 q.ex) ∧ W.cell? ⟨wr.heap.size, 4, none⟩ = some (.int .i64 q.ey) ∧ W.cell? ⟨wr.heap.size, 5, none⟩ = some (.int .i64 q.sz) from fun W hW => ⟨by simpa using (HA1.out.later hW).cell 0, by simpa using (HA1.out.later hW).cell 1, by simpa using (HA1.out.later hW).cell 2, by simpa using (HA1.out.later hW).cell 3, by simpa using (HA1.out.later hW).cell 4, by simpa using (HA1.out.later hW).cell 5⟩)
              go_region_held3 (fun (W : World) => W.cell? ⟨wr.heap.size, 0, none⟩ = some (.string q.s) ∧ W.cell? ⟨wr.heap.size, 1, none⟩ = some (.int .i64 q.ax) ∧ W.cell? ⟨wr.heap.size, 2, none⟩ = some (.int .i64 q.ay) ∧ W.cell? ⟨wr.heap.size, 3, none⟩ = some (.int .i64 q.ex) ∧ W.cell? ⟨wr.heap.size, 4, none⟩ = some (.int .i64 q.ey) ∧ W.cell? ⟨wr.heap.size, 5, none⟩ = some (.int .i64 q.sz))
                ((refine H0.out _ ?_; go_grown))
                (first | (go_at_call 17; refine (fixFault_says _ _).mono ?_; rintro e w' ⟨rfl, rfl⟩))
              go_wp2_with fail
              go_ret
              exact ⟨by rw [HE.out, HA.out HQ.out]; rfl, HB1.out.drew⟩
        · have h60' : (60 : Int) < q.s.size := by omega
          have h60d : decide ((60 : Int) < q.s.size) = true := decide_eq_true h60'
          have HQ := hid (show ltG q = false by rw [HF.out]; simp [h60])
          rcases hres with ⟨hn, rfl⟩ | ⟨rs, v, hr, rfl, ho⟩
          · clear hn f1 f2 f3 f4 f5
            go_wp2_with fail
            go_region
            go_wp2_with fail
            go_ret
            exact ⟨by rw [HE.out, HA.out HQ.out]; rfl, HB1.out.drew⟩
          · clear hr ho f1 f2 f3 f4 f5
            go_wp2_with fail
            go_region
            go_wp2_with fail
            go_ret
            exact ⟨by rw [HE.out, HA.out HQ.out]; rfl, HB1.out.drew⟩
      · have hpl' : ¬ (p : Int) < L.length := by omega
        have e : p = L.length := by omega
        subst e
        go_wp2_with fail
        go_ret
        have e2 := HP.out
        rw [List.take_length] at e2
        exact ⟨by rw [HE.out, e2]; rfl, hB⟩
  · have hl' : (150 : Int) < L.length := by omega
    have e : ltGs L = false := by unfold ltGs; simp [hl]
    rw [e]
    go_wp2_with fail
    go_ret
    exact ⟨rfl, Below.refl _ _⟩
end Go.Proofs.Ytogdfjkbkhnobaa
