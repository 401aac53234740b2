/-
  The walks of the law Names: its lists are the same, its errors have their numbers, an error's text is told.
-/
import Derived.Test.YtkechdflcmgciaaDoorFa
import Derived.Test.YtkechdflcmgciaaDoorShelf
import Derived.Deep.QuietTactic
import Derived.BigQuiet
namespace Go.Proofs.YtkechdflcmgciaaDoor
open Go.RowKit
set_option maxRecDepth 100000

set_option maxHeartbeats 400000 in
theorem sameNumbers_yes (ga oa ca gb ob cb n : Nat) (zs : List Int) (w : World) (hn : n ≤ 1000)
    (hA : ∀ k, k < n → w.cell? ⟨ga, oa + k, none⟩ = some (.int .i64 (zs.getD k 0)))
    (hB : ∀ k, k < n → w.cell? ⟨gb, ob + k, none⟩ = some (.int .i64 (zs.getD k 0))) :
    Calls Tryd.prog 9 #[.slice (some ⟨ga, oa, none⟩) n ca, .slice (some ⟨gb, ob, none⟩) n cb] w fun e w' => e = .returned (.bool true) ∧ ∃ m, w' = w.drewN m := by
  go_enter Tryd.func9, Tryd.ntmps9
  go_wp2
  go_loopw [5] (fun i wr => ∃ k m : Nat, k ≤ n ∧ i = .int .i64 k ∧ wr = w.drewN m) (fun i _ => n - (intOf i).toNat)
  case atStart => exact ⟨0, 0, Nat.zero_le _, rfl, rfl⟩
  case round =>
    obtain ⟨k, m, hk, rfl, rfl⟩ := hrel
    by_cases hlt : k < n
    · have h1 := hA k hlt
      have h2 := hB k hlt
      have hlt' : (k : Int) < n := by omega
      clear hA hB
      go_wp2
      go_quiet (fail)
      go_wp2
      go_roundw
      case rel => exact ⟨k + 1, _, by omega, by go_num, rfl⟩
      case measure => simp [intOf]; omega
    · clear hA hB
      go_wp2
      go_ret
      exact ⟨rfl, m, rfl⟩

set_option maxHeartbeats 400000 in
theorem error_11 (w : World) :
    Calls Tryd.prog 10 #[.int .i64 11] w fun e w' => e = .returned (.string ⟨#[102, 111, 108, 105, 111, 119, 114, 105, 103, 104, 116, 58, 32, 101, 114, 114, 111, 114, 32, 49, 49]⟩) ∧ w' = w := by
  have hd : Lib.decDigits 11 = [49, 49] := by rw [Lib.decDigits_two (by omega) (by omega)]; rfl
  have hi : ∀ w, Calls Tryd.prog 45 #[.int .i64 11] w fun e w' => e = .returned (.string ⟨#[49, 49]⟩) ∧ w' = w := fun w => by
    have h := Tryd.strconv_Itoa_small 11 (by omega) w
    rw [hd] at h; exact h
  clear hd
  go_enter Tryd.func10, Tryd.ntmps10
  go_wp2_with (go_at_call 45; refine (hi _).mono ?_; rintro r w' ⟨rfl, rfl⟩)
  go_ret
  exact ⟨rfl, rfl⟩

theorem info3 : (Tryd.prog.info? 3).map (fun i => (i.zero, i.size, i.bytes)) = some (some (.int .i64 0), 1, 8) := by kernel_rfl
def nl1 : List Int := [1000, 1000000000, 8, 300, 200, 60000, 20000, 60, 8, 2000, 8, 1000, 12, 65535, 300, 60, 400]
def nl2 : List Int := [0, 1, 2, 3, 4, 5, 6, 7]

theorem row_new {w : World} {cs : Array Value} {e : TypeId} (j : Nat) (u : Value) (h : cs.toList[j]? = some u) : (w.alloc (.cells cs e)).cell? ((⟨w.heap.size, 0, none⟩ : Addr).add j) = some u := by
  have : cs[j]? = some u := by simpa using h
  rw [Lib.add_plain, World.cell?_alloc_new]; simpa using this
theorem cell_past_some {w : World} {o : Obj} {a : Addr} {v : Value} (h : w.cell? a = some v) : (w.alloc o).cell? a = some v :=
  cell_later ((Below.refl _ _).alloc (Nat.le_refl _) o) h
theorem row_at {w : World} {cs : Array Value} {e : TypeId} {n : Nat} (hn : n = w.heap.size) (j : Nat) (u : Value) (h : cs.toList[j]? = some u) : (w.alloc (.cells cs e)).cell? ((⟨n, 0, none⟩ : Addr).add j) = some u := by
  subst hn; exact row_new j u h
theorem row_new2 {w : World} {cs : Array Value} {e : TypeId} {o1 o2 : Obj} (j : Nat) (u : Value) (h : cs.toList[j]? = some u) : (((w.alloc (.cells cs e)).alloc o1).alloc o2).cell? ((⟨w.heap.size, 0, none⟩ : Addr).add j) = some u := by
  exact cell_past_some (cell_past_some (row_new j u h))
theorem ones_int (l : List Int) : ∀ u ∈ l.map (Value.int .i64), u.oneCell' = true := by
  intro u hu; obtain ⟨z, _, rfl⟩ := List.mem_map.1 hu; rfl
def nv1 : List Value := nl1.map (.int .i64)
def nv2 : List Value := nl2.map (.int .i64)
def ev : Array Value := #[errV 1, errV 2, errV 3, errV 4, errV 5, errV 6, errV 7, errV 8, errV 9, errV 10, errV 11]
theorem ev_at (k : Nat) (h : k < 11) : ev[k]? = some (errV (k + 1 : Nat)) := by
  match k, h with
  | 0, _ => rfl | 1, _ => rfl | 2, _ => rfl | 3, _ => rfl | 4, _ => rfl | 5, _ => rfl | 6, _ => rfl | 7, _ => rfl | 8, _ => rfl | 9, _ => rfl | 10, _ => rfl
  | n + 11, h => omega
theorem nv_at (k : Nat) (h : k < 25) : (nv1 ++ nv2)[k]? = some (.int .i64 ((nl1 ++ nl2).getD k 0)) := by
  have e : nv1 ++ nv2 = (nl1 ++ nl2).map (.int .i64) := by simp [nv1, nv2]
  have hl : (nl1 ++ nl2).length = 25 := rfl
  rw [e, List.getElem?_map, List.getElem?_eq_getElem (by omega)]
  simp [List.getD, List.getElem?_eq_getElem (show k < (nl1 ++ nl2).length by omega)]

theorem world1 {w w1 : World} (gr : (((w.alloc (.cells nv1.toArray 3)).alloc (.cells nv1.toArray 3)).alloc (.cells nv2.toArray 3)).grownBy w1 none) :
    Below w.heap.size w w1 ∧ w1.ownsRow w.heap.size 3 1 (.slice (some ⟨w.heap.size + 1, 0, none⟩) 17 17) 17 nv1 := by
  refine ⟨((((Below.refl _ _).alloc (Nat.le_refl _) _).alloc (by simp) _).alloc (by simp; omega) _).grown gr (by simp; omega) (fun k h => by cases h), ?_⟩
  have h := World.ownsRow_lit (base := w.heap.size) (e := 3) (size := 1) (w.alloc (.cells nv1.toArray 3)) nv1.toArray 17 (by simp) (by decide) rfl
  simp only [World.size_alloc] at h
  exact (h.alloc _).kept gr (Or.inr (by simp [Value.ownBlock]))
theorem slice_of_own {w : World} {b : Nat} {v : Value} {n : Nat} {xs : List Value} (h : w.ownsRow b 3 1 v n xs) (hn : 0 < n) : ∃ g c, v = .slice (some ⟨g, 0, none⟩) n c ∧ ∀ k u, xs[k]? = some u → w.cell? ⟨g, 0 + k, none⟩ = some u := by
  have h0 := h
  obtain ⟨_, ⟨_, h2⟩ | ⟨g, cap, cur, rfl, _⟩⟩ := h
  · omega
  · refine ⟨g, cap, rfl, fun k u hu => ?_⟩
    have := h0.cells (g := g) rfl k u hu
    rwa [Lib.add_plain] at this
theorem kept_none {w w' : World} {b : Nat} {v : Value} {n : Nat} {xs : List Value} (h : w.ownsRow b 3 1 v n xs) (gr : w.grownBy w' none) : w'.ownsRow b 3 1 v n xs :=
  h.kept gr (by cases v.ownBlock <;> simp)

set_option maxHeartbeats 1000000 in
theorem names_any (w : World) :
    Calls Tryd.prog 3 #[] w fun e w' => e = .returned (.bool true) ∧ Below w.heap.size w w' := by
  obtain ⟨i0, hi, hz0, hz1, hz2⟩ := info_parts info3
  go_enter Tryd.func3, Tryd.ntmps3
  go_wp2_with (at_builtin; refine wpList_append_grows _ rfl (.tmp 7) (.tmp 8) 22 rfl 3 i0 (.int .i64 0) 1 8 Tryd.underlying22 hi hz0 hz1 hz2 rfl (by decide) (some ⟨w.heap.size, 0, none⟩) 17 17 nv1 rfl (fun h => by cases h) rfl ?ho ⟨w.heap.size + 2, 0, none⟩ 8 8 nv2 rfl rfl ?hn (ones_int _) (by decide) (by decide) (by decide) ?hK)
  case ho => intro b hb j u hj; cases hb; exact row_new2 (cs := nv1.toArray) j u hj
  case hn => intro j u hj; exact row_at (w := (w.alloc (.cells nv1.toArray 3)).alloc (.cells nv1.toArray 3)) (cs := nv2.toArray) (by simp) j u hj
  case hK =>
    intro v1 w1 own1 gr1
    obtain ⟨b1, own2⟩ := world1 gr1
    replace own1 : w1.ownsRow 0 3 1 v1 25 (nv1 ++ nv2) := ⟨own1.1, own1.2.imp id fun ⟨g, cap, cur, h1, _, h2⟩ => ⟨g, cap, cur, h1, Nat.zero_le _, h2⟩⟩
    have own2' := (own2.alloc (.cells nv2.toArray 3)).cells (g := w.heap.size + 1) rfl
    clear gr1 own2
    go_wp2_with (at_builtin; refine wpList_append_grows _ rfl (.tmp 10) (.tmp 11) 22 rfl 3 i0 (.int .i64 0) 1 8 Tryd.underlying22 hi hz0 hz1 hz2 rfl (by decide) (some ⟨w.heap.size + 1, 0, none⟩) 17 17 nv1 rfl (fun h => by cases h) rfl ?ho ⟨w1.heap.size, 0, none⟩ 8 8 nv2 rfl rfl ?hn (ones_int _) (by decide) (by decide) (by decide) ?hK)
    case ho => intro b hb j u hj; cases hb; exact own2' j u hj
    case hn => intro j u hj; exact row_new (cs := nv2.toArray) j u hj
    case hK =>
      intro v2 w2 own2 gr2
      have b2 : Below w.heap.size w w2 := (b1.alloc b1.size _).grown gr2 (by have := b1.size; simp; omega) (fun k h => by cases h)
      have own1' := kept_none (own1.alloc _) gr2
      obtain ⟨g1, c1, hv1, hc1⟩ := slice_of_own own1' (by decide)
      obtain ⟨g2, c2, hv2, hc2⟩ := slice_of_own own2 (by decide)
      clear own1 own1' own2 gr2 own2' b1
      rw [hv1, hv2]
      clear hv1 hv2 v1 v2
      have hA : ∀ o : Obj, ∀ k, k < 25 → (w2.alloc o).cell? ⟨g1, 0 + k, none⟩ = some (.int .i64 ((nl1 ++ nl2).getD k 0)) := fun o k hk => cell_past_some (hc1 k _ (nv_at k hk))
      have hB : ∀ o : Obj, ∀ k, k < 25 → (w2.alloc o).cell? ⟨g2, 0 + k, none⟩ = some (.int .i64 ((nl1 ++ nl2).getD k 0)) := fun o k hk => cell_past_some (hc2 k _ (nv_at k hk))
      have HA := Lib.hid hA
      have HB := Lib.hid hB
      clear hc1 hc2 hA hB
      go_wp2
      go_loop [4] (fun i => ∃ k : Nat, k ≤ 11 ∧ i = .int .i64 k) (fun i => 11 - (intOf i).toNat)
      case atStart => exact ⟨0, by omega, rfl⟩
      case round =>
        obtain ⟨k, hk, rfl⟩ := hrel
        by_cases hlt : k < 11
        · have hc : (w2.alloc (.cells ev 27)).cell? ⟨w2.heap.size, k, none⟩ = some (errV (k + 1 : Nat)) := by
            rw [World.cell?_alloc_new]; exact ev_at k hlt
          simp only [ev, errV] at hc
          have hs : ∀ w, Calls Tryd.prog 8 #[.iface 23 (.int .i64 ((k : Int) + 1)), .int .i64 ((k : Int) + 1)] w fun e w' => e = .returned (.bool true) ∧ w' = w := fun w => by
            refine (same_err ((k : Int) + 1) ((k : Int) + 1) w).mono ?_
            rintro e w' ⟨rfl, rfl⟩
            exact ⟨ret_bool (by simp), rfl⟩
          have ec : (((k + 1 : Nat) : Int)) = (k : Int) + 1 := by omega
          rw [ec] at hc
          clear ec
          go_wp2_with (go_at_call 8; refine (hs _).mono ?_; rintro e w' ⟨rfl, rfl⟩)
          go_round
          case rel => exact ⟨k + 1, by omega, by go_num⟩
          case measure => simp [intOf]; omega
        · go_wp2_with (first
            | (go_at_call 9; refine (sameNumbers_yes g1 0 c1 g2 0 c2 25 (nl1 ++ nl2) _ (by omega) (HA.out _) (HB.out _)).mono ?_; rintro e w' ⟨rfl, m, rfl⟩)
            | (go_at_call 10; refine (error_11 _).mono ?_; rintro e w' ⟨rfl, rfl⟩))
          go_ret
          exact ⟨rfl, (below_drewN (b2.alloc b2.size _) m)⟩
end Go.Proofs.YtkechdflcmgciaaDoor
