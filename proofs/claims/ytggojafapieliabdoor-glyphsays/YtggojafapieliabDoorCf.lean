/-
  Bytes as digits, behind bytes: the program's.
-/
import Derived.Test.YtggojafapieliabDoorAm
import Derived.Test.YtggojafapieliabDoorCe
import Derived.Deep.RegionLaw
import Derived.Deep.DrawnRows
namespace Go.Proofs.YtggojafapieliabDoor
open Go.RowKit
set_option maxRecDepth 100000
attribute [local go_sem ↓] Go.wp_at_zero Go.wp_at_succ

theorem and15 (c : UInt8) : bits .and .u8 (c.toNat : Int) 15 = (c.toNat : Int) % 16 := by
  have h : ∀ x : Fin 256, bits .and .u8 (x.1 : Int) 15 = (x.1 : Int) % 16 := by decide
  exact h ⟨c.toNat, c.toNat_lt⟩
theorem dgt_tbl (a : Nat) (h : a < 16) : (⟨#[48, 49, 50, 51, 52, 53, 54, 55, 56, 57, 65, 66, 67, 68, 69, 70]⟩ : ByteArray)[a]'h = dgt a := by
  have : ∀ x : Fin 16, (⟨#[48, 49, 50, 51, 52, 53, 54, 55, 56, 57, 65, 66, 67, 68, 69, 70]⟩ : ByteArray)[x.1]'x.2 = dgt x.1 := by decide
  exact this ⟨a, h⟩
/-- Bytes that lie apart from a row. -/
def Src (w : World) (al : Option Addr) (ys : List UInt8) (sv : Value) : Prop := ∀ j y, ys[j]? = some y → ∃ g, al = some ⟨g, 0, none⟩ ∧ g < w.heap.size ∧ w.cell? ⟨g, j, none⟩ = some (byteV y) ∧ some g ≠ sv.ownBlock
theorem Src.grew {w w' : World} {al : Option Addr} {ys : List UInt8} {sv v' : Value} (h : Src w al ys sv) (hg : Grew sv w v' w') : Src w' al ys v' := fun j y hj => by
  obtain ⟨g, e, hl, hc, hn⟩ := h j y hj
  obtain ⟨o, ho⟩ : ∃ o, w.heap[g]? = some o := ⟨w.heap[g], Array.getElem?_eq_getElem hl⟩
  obtain ⟨h1, h2⟩ := hg.row ho hn
  refine ⟨g, e, Nat.lt_of_lt_of_le hl hg.size, ?_, h2⟩
  rw [← hc]
  unfold World.cell?
  simp only [h1, ho]
set_option maxHeartbeats 2000000 in
theorem addHex_says (B : Nat) (sv : Value) (xs ys : List UInt8) (al : Option Addr) (c : Nat) (w : World) (hs : ys.length ≤ 100000) (hown : OwnM w B sv xs) (hB : B ≤ w.heap.size) (hlim : xs.length ≤ 100000000) (hsrc : Src w al ys sv) :
    Calls Tryd.prog 29 #[sv, .slice al ys.length c] w fun e w' => ∃ v', e = .returned v' ∧ OwnM w' B v' (xs ++ strH ys) ∧ Grew sv w v' w' := by
  have HS := hid hsrc
  clear hsrc
  go_enter Tryd.func29, Tryd.ntmps29
  go_wp2_with (at_builtin; refine wpAppM rfl (.tmp 7) (.tmp 8) rfl B _ xs rfl (hown.alloc _) w.heap.size [60] 1 1 rfl (0, 0) rfl _ rfl (heap_alloc_new _ _) (by omega) (by simp; omega) ?_)
  intro v1 w1 hown1 hk1
  replace hk1 := hk1.unalloc
  go_wp2
  go_loopw [0, 12] (fun t i wr => ∃ k : Nat, i = .int .i64 k ∧ k ≤ ys.length ∧ OwnM wr B t (xs ++ 60 :: hxL (ys.take k)) ∧ Grew sv w t wr) (fun _ i _ => ys.length - (intOf i).toNat)
  case atStart => exact ⟨0, rfl, Nat.zero_le _, by simpa [hxL] using hown1, hk1⟩
  case round =>
    clear hown1 hk1 hown
    obtain ⟨k, rfl, hk, hown, hb⟩ := hrel
    have hbs := hb.size
    have hfl2 : (hxL (ys.take k)).length ≤ 200000 := by
      rw [hxL_len, List.length_take]; omega
    generalize hpre : hxL (ys.take k) = pre at *
    have HPR := hid hpre
    clear hpre
    by_cases hlt : k < ys.length
    · have hlt' : (k : Int) < ys.length := by omega
      obtain ⟨g, rfl, hgl, hgc, hgn⟩ := (HS.out.grew hb) k ys[k] (List.getElem?_eq_getElem hlt)
      have HT := hid (show ys.take (k + 1) = ys.take k ++ [ys[k]] from List.take_succ_eq_append_getElem hlt)
      have hc256 := ys[k].toNat_lt
      have ex : ∃ a b : Nat, (ys[k].toNat : Int) / 16 = a ∧ (ys[k].toNat : Int) % 16 = b ∧ a < 16 ∧ b < 16 ∧ ys[k].toNat / 16 = a ∧ ys[k].toNat % 16 = b := ⟨ys[k].toNat / 16, ys[k].toNat % 16, by omega, by omega, by omega, by omega, rfl, rfl⟩
      obtain ⟨a, b, ea, eb, la, lb, na, nb⟩ := ex
      have HE := hid (show hx2 ys[k] = [dgt a, dgt b] by unfold hx2; rw [na, nb])
      clear na nb
      have la' : (a : Int) < 16 := by omega
      have lb' : (b : Int) < 16 := by omega
      have h15 : bits .and .u8 (ys[k].toNat : Int) 15 = (b : Int) := by rw [and15, eb]
      unfold byteV at hgc
      generalize ys[k] = y at *
      go_wp2_with fail
      go_region_law ((refine stepAppM (by rfl) (.tmp 16) (.tmp 23) (by rfl) B _ (xs ++ 60 :: pre) (by rfl) (by exact hown.alloc _) wr.heap.size [dgt a, dgt b] 2 2 (by rfl) (0, 0) (by rfl) _ (by rw [← dgt_tbl a la, ← dgt_tbl b lb]) (by exact heap_alloc_new _ _) (by simp; omega) (by simp; omega) ?_; intro v2 w2 hown2 hk2))
      all_goals
        have hb2 := hb.trans hk2.undrew.unalloc
        clear hown hk2 hb
        go_wp2
        go_roundw
        case rel =>
          refine ⟨k + 1, by go_num, by omega, ?_, hb2⟩
          rw [HT.out]
          unfold hxL at *
          rw [List.flatMap_append, HPR.out, List.flatMap_singleton, HE.out]
          simpa using hown2
        case measure => simp [intOf]; omega
    · have hlt' : ¬ (k : Int) < ys.length := by omega
      go_wp2_with (at_builtin; refine wpAppM rfl (.tmp 26) (.tmp 27) rfl B _ _ rfl (hown.alloc _) wr.heap.size [62] 1 1 rfl (0, 0) rfl _ rfl (heap_alloc_new _ _) (by simp; omega) (by simp; omega) ?_)
      intro v2 w2 hown2 hk2
      have hb2 := hb.trans hk2.unalloc
      go_wp2
      go_ret
      refine ⟨_, rfl, ?_, hb2⟩
      have e := HPR.out
      rw [List.take_of_length_le (by omega)] at e
      unfold strH
      rw [e]
      simpa using hown2
end Go.Proofs.YtggojafapieliabDoor
