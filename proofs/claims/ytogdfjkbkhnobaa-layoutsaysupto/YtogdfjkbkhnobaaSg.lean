/-
  Numbers of a call's own are put in order.
-/
import Derived.Test.YtogdfjkbkhnobaaSf
import Derived.Sort.OwnSortedInts
namespace Go.Proofs.Ytogdfjkbkhnobaa
open Go.Shelf Go.RowKit Go.Lib Go.Sort
set_option maxRecDepth 1000000

theorem Put.other {w0 W : World} {blk off n : Nat} {f : Nat → Int} (h : Put w0 blk off n f W) {b : Nat} (hb : b ≠ blk) (hl : b < w0.heap.size) (o : Nat) : W.cell? ⟨b, o, none⟩ = w0.cell? ⟨b, o, none⟩ := by
  obtain ⟨d, _, _, m, os, rfl⟩ := h
  unfold sortWorld
  rw [cell?_grow _ _ _ (by simpa using hl), cell?_putRow_other _ _ _ _ _ _ (.inl hb)]
  rfl
theorem Put.size {w0 W : World} {blk off n : Nat} {f : Nat → Int} (h : Put w0 blk off n f W) : w0.heap.size ≤ W.heap.size := by
  obtain ⟨d, _, _, h⟩ := h
  exact h.le
/-- Without numbers nothing is done. -/
theorem ins_none (al : Option Addr) (c : Nat) (F : Value) (w : World) : Calls Try.prog 30 #[.slice al 0 c, .int .i64 0, .int .i64 0, F] w fun e w' => e = .returned (.tuple #[]) ∧ w' = w := by
  go_enter Try.func30, Try.ntmps30
  go_wp2_with fail
  go_loopg [8] 1 (fun _ vi wr => vi = .int .i64 1 ∧ wr = w)
  case atStart => exact ⟨rfl, rfl⟩
  case round =>
    obtain ⟨rfl, rfl⟩ := hrel
    go_wp2_with fail
    go_end0
    exact ⟨rfl, rfl⟩
theorem stable_none (al : Option Addr) (c : Nat) (F : Value) (w : World) : Calls Try.prog 28 #[.slice al 0 c, .int .i64 0, F] w fun e w' => e = .returned (.tuple #[]) ∧ w' = w := by
  go_enter Try.func28, Try.ntmps28
  go_wp2_with fail
  go_loopg [7, 8] 1 (fun _ va vb wr => va = .int .i64 0 ∧ vb = .int .i64 20 ∧ wr = w)
  case atStart => exact ⟨rfl, rfl, rfl⟩
  case round =>
    obtain ⟨rfl, rfl, hw⟩ := hrel
    have HW := hid hw
    clear hw
    go_wp2_with (go_at_call 30; refine (ins_none _ _ _ _).mono ?_; rintro e w1 ⟨rfl, h1⟩; have HW1 := hid h1; clear h1)
    go_loopg [6, 7, 8, 9] 1 (fun _ vs _ _ _ wq => vs = .int .i64 20 ∧ Hid (wq = w))
    case atStart => exact ⟨rfl, hid (HW1.out.trans HW.out)⟩
    case round =>
      obtain ⟨rfl, hq⟩ := hrel
      go_wp2_with fail
      go_end0
      exact ⟨rfl, hq.out⟩
theorem sort_none (al : Option Addr) (c : Nat) (F : Value) (w : World) : Calls Try.prog 23 #[.slice al 0 c, F] w fun e w' => e = .returned (.tuple #[]) ∧ w' = w := by
  go_enter Try.func23, Try.ntmps23
  go_wp2_with (go_at_call 28; refine (stable_none _ _ _ _).mono ?_; rintro e w1 ⟨rfl, rfl⟩)
  go_end0
  exact ⟨rfl, rfl⟩

/-- Numbers of a call's own. -/
def OwnI (w : World) (B : Nat) (v : Value) (zs : List Int) : Prop := w.ownsRow B 3 1 v zs.length (zs.map (Value.int .i64))
/-- What holds two numbers against each other, wherever just that block is another. -/
def CmpIn (g : Nat) (cb : Array Value) (cf : Int → Int → Int) (N : Nat) (w : World) (blk : Nat) : Prop :=
  ∀ W : World, w.heap.size ≤ W.heap.size → (∀ b o, b ≠ blk → b < w.heap.size → W.cell? ⟨b, o, none⟩ = w.cell? ⟨b, o, none⟩) → ∀ x y : Int, 0 ≤ x → x < N → 0 ≤ y → y < N →
    Calls Try.prog g (#[enI x, enI y] ++ cb) W fun e w' => e = .returned (.int .i64 (cf x y)) ∧ ∃ q os, w' = grow (W.drewN q) os
theorem list_of {n : Nat} (f : Nat → Int) : ((List.range n).map f).length = n := by simp
theorem map_toF (d : Array Int) : (List.range d.size).map (toF d) = d.toList := by
  apply List.ext_getElem
  · simp
  · intro i h1 h2
    simp [toF] at h1 ⊢
    rw [getElem!_pos d i (by omega)]
theorem prm_perm {f g : Nat → Int} {n : Nat} (h : Prm f g 0 n) : ((List.range n).map g).Perm ((List.range n).map f) := by
  obtain ⟨p, q, h⟩ := h
  have e1 : (List.range n).map g = ((List.range n).map p).map f := by
    rw [List.map_map]
    apply List.map_congr_left
    intro a _
    exact h.eq a
  rw [e1]
  refine List.Perm.map f ?_
  have hqi : ∀ k, k < n → q k < n := fun k hk => by
    by_cases c : q k < n
    · exact c
    · have := h.out (q k) (by omega)
      rw [h.pq] at this; omega
  have inj : ∀ a b, p a = p b → a = b := fun a b e => by have := h.qp a; rw [e, h.qp] at this; exact this.symm
  refine (List.perm_ext_iff_of_nodup ?_ List.nodup_range).2 fun a => ?_
  · rw [List.nodup_iff_pairwise_ne, List.pairwise_map]
    exact List.nodup_range.imp fun h1 e => h1 (inj _ _ e)
  · simp only [List.mem_map, List.mem_range]
    constructor
    · rintro ⟨b, hb, rfl⟩
      exact (h.inn b (Nat.zero_le _) hb).2
    · intro ha
      exact ⟨q a, hqi a ha, h.pq a⟩
theorem srt_pair {key : Int → Int} {tie : Int → Int → Prop} {g : Nat → Int} {n : Nat} (h : Srt key tie g 0 n) : ((List.range n).map g).Pairwise (Lt key tie) := by
  rw [List.pairwise_map]
  refine List.Pairwise.imp_of_mem (R := fun a b => a < b) (fun {a b} ha hb hab => h a b (Nat.zero_le _) hab (List.mem_range.1 hb)) List.pairwise_lt_range
theorem told_of {tie : Int → Int → Prop} {zs : List Int} (h : zs.Pairwise tie) : Told tie (toF zs.toArray) 0 zs.length := fun i j _ h2 h3 => by
  unfold toF
  rw [getElem!_pos zs.toArray i (by simpa using (by omega)), getElem!_pos zs.toArray j (by simpa using h3)]
  exact (List.pairwise_iff_getElem.1 h) i j (by omega) h3 h2
/-- Numbers of a call's own, put in order; those of one rank as they stood. -/
theorem sort_own {key : Int → Int} {tie : Int → Int → Prop} {g : Nat} {cb : Array Value} {cf : Int → Int → Int} {N B : Nat} (ht : TieOk tie) (eg : ∀ args w, (callFunc g args).run Try.prog w = .ok (.enter g args) w) (hcf : ∀ x y, cf x y < 0 ↔ key x < key y)
    (zs : List Int) (v : Value) (w : World) (hO : OwnI w B v zs) (hC : ∀ blk, v.ownBlock = some blk → CmpIn g cb cf N w blk) (hr : ∀ z ∈ zs, 0 ≤ z ∧ z < N) (hT : zs.Pairwise tie) (hl : zs.length < 1000000) :
    Calls Try.prog 23 #[v, .func (.func g) #[] cb] w fun e w' => e = .returned (.tuple #[]) ∧ ∃ ts, ts.Perm zs ∧ ts.Pairwise (Lt key tie) ∧ OwnI w' B v ts ∧ w.grownBy w' v.ownBlock := by
  rcases hO.2 with ⟨hv, h0⟩ | ⟨blk, cap, cur, hv, hB, hb, h1, h2, h3, h4⟩
  · subst hv
    have hz : zs = [] := List.eq_nil_of_length_eq_zero h0
    subst hz
    exact (sort_none none 0 _ w).mono fun e w' ⟨he, hw⟩ => ⟨he, [], List.Perm.refl _, List.Pairwise.nil, by rw [hw]; exact hO, by rw [hw]; exact World.grownBy.refl _ _⟩
  · subst hv
    have hH : Holds enI w blk 0 zs.toArray := holds_of_blockI hb (by rw [Nat.mul_one] at h4; exact h4)
    have hlt : blk < w.heap.size := (Array.getElem?_eq_some_iff.1 hb).1
    have R : Row1 enI w blk 0 zs.toArray := ⟨fun _ => rfl, hH, hlt⟩
    have S : Put w blk 0 zs.toArray.size (toF zs.toArray) w := ⟨zs.toArray, rfl, rfl, SW.start hH⟩
    have hCC : CmpOk g cb cf N w blk 0 zs.toArray.size := fun W f hP x y x1 x2 y1 y2 => hC blk rfl W hP.size (fun b o hb hl => hP.other hb hl o) x y x1 x2 y1 y2
    have hs := sortStable_says (d0 := zs.toArray) (key := key) (tie := tie) R (by simpa using hl) ht eg hCC hcf cap w _ S (fun k hk => by
      unfold toF
      rw [getElem!_pos zs.toArray k hk]
      exact hr _ (by simp)) (by simpa using told_of hT)
    rw [show zs.toArray.size = zs.length by simp] at hs
    refine hs.mono fun e w' ⟨he, f', ⟨d, hd, hf, m, os, hw⟩, hp, hq⟩ => ⟨he, d.toList, ?_, ?_, ?_, ?_⟩
    · have := prm_perm hp
      rw [← hf, ← hd, map_toF, hd] at this
      refine this.trans ?_
      rw [show zs.length = zs.toArray.size by simp, map_toF]
    · have := srt_pair hq
      rw [← hf, ← hd, map_toF] at this
      exact this
    · rw [hw]
      have e : d.toList.length = zs.length := by simpa using hd
      have := ownsRow_sortedI (w := w) (n := m) (os := os) (ss := zs) (ts := d.toList) e hB hb h1 h2 h3
      unfold OwnI
      rw [e]
      exact this
    · rw [hw]
      exact grownBy_sortedI d
end Go.Proofs.Ytogdfjkbkhnobaa
