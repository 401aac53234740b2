/-
  Is a glyph in a line, is there room between two (layout.level, layout.room).
-/
import Derived.Test.YtogdfjkbkhnobaaSh
namespace Go.Proofs.Ytogdfjkbkhnobaa
open Go.Shelf Go.RowKit Go.Lib Go.Sort
set_option maxRecDepth 1000000

def N9 (n : Int) : Prop := -1000000000 ≤ n ∧ n ≤ 1000000000
/-- Places and sizes within bounds, a text that is not long. -/
structure GyOk (g : Gy) : Prop where
  ax : N9 g.ax
  ay : N9 g.ay
  ex : N9 g.ex
  ey : N9 g.ey
  sz : N9 g.sz
  s : g.s.size ≤ 60
def lvl (f g : Gy) : Bool := decide (2 * (f.ay - g.ay) ≤ f.sz)
def rom (g n : Gy) : Bool := decide (g.sz < 4 * (n.ax - g.ex))
abbrev Gy.v (g : Gy) : Value := .agg #[.string g.s, .int .i64 g.ax, .int .i64 g.ay, .int .i64 g.ex, .int .i64 g.ey, .int .i64 g.sz, .int .i64 g.x0, .int .i64 g.y0, .int .i64 g.x1, .int .i64 g.y1]
theorem level_says (f g : Gy) (w : World) (hf : GyOk f) (hg : GyOk g) : Calls Try.prog 22 #[f.v, g.v] w fun e w' => e = .returned (.bool (lvl f g)) ∧ ∃ q os, w' = grow (w.drewN q) os := by
  obtain ⟨a1, a2⟩ := hf.ay
  obtain ⟨a3, a4⟩ := hg.ay
  have r1 : IntKind.i64.wrap (f.ay - g.ay) = f.ay - g.ay := by rw [IntKind.wrap_i64]; omega
  have r2 : IntKind.i64.wrap (2 * (f.ay - g.ay)) = 2 * (f.ay - g.ay) := by rw [IntKind.wrap_i64]; omega
  unfold lvl
  clear a1 a2 a3 a4 hf hg
  go_enter Try.func22, Try.ntmps22
  go_wp2_with fail
  go_ret
  exact ⟨rfl, 0, _, by rw [alloc_eq_grow, alloc_eq_grow, grow_grow]; rfl⟩
theorem room_says (g n : Gy) (w : World) (hg : GyOk g) (hn : GyOk n) : Calls Try.prog 26 #[g.v, n.v] w fun e w' => e = .returned (.bool (rom g n)) ∧ ∃ q os, w' = grow (w.drewN q) os := by
  obtain ⟨a1, a2⟩ := hg.ex
  obtain ⟨a3, a4⟩ := hn.ax
  have r1 : IntKind.i64.wrap (n.ax - g.ex) = n.ax - g.ex := by rw [IntKind.wrap_i64]; omega
  have r2 : IntKind.i64.wrap (4 * (n.ax - g.ex)) = 4 * (n.ax - g.ex) := by rw [IntKind.wrap_i64]; omega
  unfold rom
  clear a1 a2 a3 a4 hg hn
  go_enter Try.func26, Try.ntmps26
  go_wp2_with fail
  go_ret
  exact ⟨rfl, 0, _, by rw [alloc_eq_grow, alloc_eq_grow, grow_grow]; rfl⟩
end Go.Proofs.Ytogdfjkbkhnobaa
