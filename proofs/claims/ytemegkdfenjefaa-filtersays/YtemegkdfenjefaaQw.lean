/-
  Filters of the document's answer: digits to the base 85 are taken apart.
-/
import Derived.Test.YtemegkdfenjefaaQu
import Derived.Test.YtemegkdfenjefaaQm
import Derived.Test.YtemegkdfenjefaaQq
namespace Go.Proofs.Ytemegkdfenjefaa
open Go.RowKit
set_option maxRecDepth 100000

/-- Digits that are read so far. -/
structure Digs (g : List Nat) : Prop where
  len : g.length ≤ 4
  lt : ∀ d ∈ g, d < 85
theorem val85_lt : ∀ (g : List Nat), (∀ d ∈ g, d < 85) → val85 g < 85 ^ g.length := by
  intro g
  rw [← List.reverse_reverse g]
  generalize g.reverse = r
  induction r with
  | nil => intro _; simp [val85]
  | cons d r ih =>
    intro h
    rw [List.reverse_cons, val85_snoc, List.length_append, List.length_singleton, Nat.pow_succ]
    have h1 := ih (fun x hx => h x (by rw [List.reverse_cons]; simp at hx ⊢; exact .inl hx))
    have h2 := h d (by simp)
    omega
theorem Digs.val {g : List Nat} (h : Digs g) : val85 g < 52200625 :=
  Nat.lt_of_lt_of_le (val85_lt g h.lt) (Nat.le_trans (Nat.pow_le_pow_right (by omega) h.len) (by decide))
theorem Digs.val' {g : List Nat} (h : Digs g) : ((val85 g : Nat) : Int) < 52200625 := by have := h.val; omega
theorem Digs.nil : Digs [] := ⟨by simp, fun _ h => by cases h⟩
theorem Digs.snoc {g : List Nat} (h : Digs g) {d : Nat} (hl : g.length < 4) (hd : d < 85) : Digs (g ++ [d]) :=
  ⟨by simp; omega, fun x hx => by
    rcases List.mem_append.1 hx with h1 | h1
    · exact h.lt x h1
    · simp at h1; omega⟩
theorem fiveEnd_gen (g : List Nat) (h2 : 2 ≤ g.length) (b : List UInt8) : fiveEnd g b = readR (val85 (g ++ List.replicate (5 - g.length) 84)) (g.length - 1) b := by
  unfold fiveEnd readR
  rw [if_neg (by omega), if_neg (by omega)]
/-- A number of four bytes, byte by byte. -/
theorem four_parts (v : Nat) (h : v < 4437053125) : ∃ q0 q1 q2 q3 : Int, (v : Int).tdiv 16777216 = q0 ∧ (v : Int).tdiv 65536 = q1 ∧ (v : Int).tdiv 256 = q2 ∧ (v : Int).tmod 256 = q3 ∧ 0 ≤ q0 ∧ q0 < 265 ∧ 0 ≤ q1 ∧ q1 < 67800 ∧ 0 ≤ q2 ∧ q2 < 17400000 ∧ 0 ≤ q3 ∧ q3 < 256 ∧
    (v < 4294967296 → q0 < 256 ∧ byte4 v = [UInt8.ofNat q0.toNat, UInt8.ofNat (q1 % 256).toNat, UInt8.ofNat (q2 % 256).toNat, UInt8.ofNat q3.toNat]) := by
  refine ⟨_, _, _, _, rfl, rfl, rfl, rfl, ?_⟩
  rw [td_nonneg (by omega), td_nonneg (by omega), td_nonneg (by omega), tm_nonneg (by omega)]
  refine ⟨by omega, by omega, by omega, by omega, by omega, by omega, by omega, by omega, fun hv => ⟨by omega, ?_⟩⟩
  unfold byte4
  rw [show ((v : Int) / 16777216).toNat = v / 16777216 by omega, show ((v : Int) / 65536 % 256).toNat = v / 65536 % 256 by omega, show ((v : Int) / 256 % 256).toNat = v / 256 % 256 by omega, show ((v : Int) % 256).toNat = v % 256 by omega]
section
variable {W : World} {ops : Array Oper} {rest : List Oper} {o : Oper} {a : Act} {Q : Exit → Act → World → Prop}
theorem run_app8p (B : Nat) (ty : TypeId) (v : Value) (xs : List UInt8) (hown : Own8 W B v xs) (g : Nat) (ys : List UInt8) (c : Nat)
    (hg : ∀ (j : Nat) (u : Value), (ys.map byteV)[j]? = some u → W.cell? ⟨g, j, none⟩ = some u)
    (hlim : xs.length + ys.length ≤ 1000000000) (hB : B ≤ W.heap.size) :
    ∃ v' w', (Builtin.append_ #[40, 40] ty #[v, .slice (some ⟨g, 0, none⟩) ys.length c]).run Try.prog W = .ok v' w' ∧ Own8 w' B v' (xs ++ ys) ∧ Grew v W v' w' := by
  obtain ⟨i0, hi, hz0, hz1, hz2⟩ := info_parts info5
  obtain ⟨v', w', hr, h2, h3, _, h5⟩ := run_append_own_at (P := Try.prog) W B 40 ty 5 i0 (.int .u8 0) 1 1 Try.underlying40 hi hz0 hz1 hz2 rfl (by decide) v xs.length (xs.map byteV) hown ⟨g, 0, none⟩ ys.length c (ys.map byteV) (by simp) (fun j u hj => by
      rw [Lib.add_plain, Nat.zero_add]; exact hg j u hj) (fun u hu => by obtain ⟨b, _, rfl⟩ := List.mem_map.1 hu; rfl) (by unfold maxLen; omega) (by omega) hB
  refine ⟨v', w', hr, ?_, h3, h5.imp id (fun e => ⟨_, e, Nat.le_refl _⟩)⟩
  unfold Own8; rw [List.length_append, List.map_append]; exact h2
theorem wpApp8p (hgd : o.guard = none) (s x : Operand) (ho : o.op = .call { callee := .builtin .append, args := #[s, x], argTypes := #[40, 40] })
    (B : Nat) (v : Value) (xs : List UInt8) (hs : a.eval s = v) (hown : Own8 W B v xs) (g : Nat) (ys : List UInt8) (m c : Nat) (hx : a.eval x = .slice (some ⟨g, 0, none⟩) m c)
    (hm : ys.length = m) (hg : ∀ (j : Nat) (u : Value), (ys.map byteV)[j]? = some u → W.cell? ⟨g, j, none⟩ = some u) (hlim : xs.length + m ≤ 1000000000) (hB : B ≤ W.heap.size)
    (h : ∀ v' w', Own8 w' B v' (xs ++ ys) → Grew v W v' w' → wpList Try.prog ops Q rest (a.put o.dst v') w') :
    wpList Try.prog ops Q (o :: rest) a W := by
  subst hm
  obtain ⟨v', w', hr, h2, h3⟩ := run_app8p (W := W) B o.type v xs hown g ys c hg hlim hB
  refine wpList_plain hgd fun K hK => ?_
  unfold Oper.wp execOp
  simp only [ho, resolve, invoke, builtin, Sem.run_bind, Sem.run_pure, Result.andThen_ok, List.map_toArray, List.map_cons, List.map_nil, hs, hx, hr]
  exact hK _ _ (h v' w' h2 h3)
end
end Go.Proofs.Ytemegkdfenjefaa
