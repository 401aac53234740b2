/-
  The signs of a string in a font: the program's answer.
-/
import Derived.Test.YtggojafapieliabDoorGe
import Derived.Test.YtggojafapieliabDoorEb
import Derived.Maps.AppendAt
import Derived.Deep.RegionWith
import Derived.Deep.RegionHeld3
import Derived.Deep.AppendLies
namespace Go.Proofs.YtggojafapieliabDoor
open Go.RowKit Go.WideMaps Go.Maps
set_option maxRecDepth 100000
attribute [local go_sem ↓] Go.wp_at_zero Go.wp_at_succ

/-- The codes of a string. -/
def cdL : Bool → List UInt8 → List Int
  | false, l => l.map fun c => (c.toNat : Int)
  | true, a :: b :: r => ((a.toNat : Int) * 256 + b.toNat) :: cdL true r
  | true, _ => []
/-- A code's sign: its cells are those of a span. -/
def sgP (F : Ft) (c : Int) : Sp := ⟨c, wdP F c, ⟨(txP F c).toArray⟩⟩
def sgL (F : Ft) (l : List UInt8) : List Sp := (cdL F.wide l).map (sgP F)
def clG (l : List Sp) : List Value := l.flatMap fun x => [.int .i64 x.f, .int .i64 x.t, .string x.s]
/-- A row of signs that was made. -/
def OwnG (w : World) (B : Nat) (v : Value) (l : List Sp) : Prop := w.ownsRow B 55 3 v l.length (clG l)
theorem OwnG.later {w w' : World} {B : Nat} {v : Value} {l : List Sp} (h : OwnG w B v l) (hb : Below w.heap.size w w') : OwnG w' B v l :=
  World.ownsRow.kept h (row := none) ⟨hb.os, hb.tape, hb.output, hb.size, fun k hk _ => hb.block k hk⟩ (by cases v.ownBlock <;> simp)
theorem infoSg : (Tryd.prog.info? 55).map (fun i => (i.zero, i.size, i.bytes)) = some (some (.agg #[.int .i64 0, .int .i64 0, .string ByteArray.empty]), 3, 32) := by kernel_rfl
theorem stepAppG {ops : Array Oper} {o : Oper} {a : Act} {W : World} {Q : Exit → Act → World → Prop} {K : Act → World → Prop} {E : Prop} (hgd : o.guard = none) (s x : Operand) (ho : o.op = .call { callee := .builtin .append, args := #[s, x], argTypes := #[47, 47] })
    (B : Nat) (v : Value) (l : List Sp) (hs : a.eval s = v) (hown : OwnG W B v l) (g : Nat) (y : Sp) (c : Nat) (hx : a.eval x = .slice (some ⟨g, 0, none⟩) 1 c) (hg : At W g 55 #[.int .i64 y.f, .int .i64 y.t, .string y.s]) (hlim : l.length ≤ 1000000) (hB : B ≤ W.heap.size)
    (h : ∀ v' w', OwnG w' B v' (l ++ [y]) → W.grownBy w' v.ownBlock → K (a.put o.dst v') w') :
    if Region.wanted o (yielded ops a.tmps) = true then Oper.wp Tryd.prog o a W K Q else E := by
  have hw : Region.wanted o (yielded ops a.tmps) = true := by simp [Region.wanted, hgd]
  rw [if_pos hw]
  obtain ⟨iF, hiF, hf0, hf1, hf2⟩ := info_parts infoSg
  obtain ⟨v', w', hr, h2, h3, _, _⟩ := run_append_own_at (P := Tryd.prog) W B 47 o.type 55 iF _ 3 32 Tryd.underlying47 hiF hf0 hf1 hf2 rfl (by decide) v l.length (clG l) hown ⟨g, 0, none⟩ 1 c [.int .i64 y.f, .int .i64 y.t, .string y.s] rfl (World.news_of_block hg) (by simp [Value.oneCell']) (by unfold maxLen; omega) (by omega) hB
  unfold Oper.wp execOp
  simp only [ho, resolve, invoke, builtin, Sem.run_bind, Sem.run_pure, Result.andThen_ok, List.map_toArray, List.map_cons, List.map_nil, hs, hx, hr]
  refine h v' w' ?_ h3
  unfold OwnG
  rw [show clG (l ++ [y]) = clG l ++ [.int .i64 y.f, .int .i64 y.t, .string y.s] by unfold clG; rw [List.flatMap_append]; rfl, List.length_append]
  exact h2
theorem OwnG.base {w : World} {B B' : Nat} {v : Value} {l : List Sp} (h : OwnG w B v l) (hb : B' ≤ B) : OwnG w B' v l := by
  obtain ⟨h1, h2 | ⟨g, cap, cur, h2, h3, h4⟩⟩ := h
  · exact ⟨h1, .inl h2⟩
  · exact ⟨h1, .inr ⟨g, cap, cur, h2, Nat.le_trans hb h3, h4⟩⟩
/-- The cells of a font that was handed in. -/
def FtC (w : World) (b : Nat) (wide : Bool) (mw mn : Value) (miss : Int) (sl : Value) : Prop := w.cell? ⟨b, 0, none⟩ = some (.bool wide) ∧ w.cell? ⟨b, 1, none⟩ = some mw ∧ w.cell? ⟨b, 2, none⟩ = some (.int .i64 miss) ∧ w.cell? ⟨b, 3, none⟩ = some mn ∧ w.cell? ⟨b, 4, none⟩ = some sl
theorem ftC {w : World} {b : Nat} {wide : Bool} {mw mn : Value} {miss : Int} {sl : Value} (h : At w b 44 #[.bool wide, mw, .int .i64 miss, mn, sl]) : FtC w b wide mw mn miss sl := ⟨h.cell 0, h.cell 1, h.cell 2, h.cell 3, h.cell 4⟩
theorem u8_le (c : UInt8) : (c.toNat : Int) ≤ 65535 := by have := c.toNat_lt; omega
theorem u8_nn (c : UInt8) : (0 : Int) ≤ (c.toNat : Int) := Int.natCast_nonneg _
theorem u8_wrap (c : UInt8) : wrap64 (c.toNat : Int) = (c.toNat : Int) := by have := c.toNat_lt; unfold wrap64; omega
theorem headF {c : UInt8} {r : List UInt8} {D : ByteArray} (h : D = ⟨(c :: r).toArray⟩) : (D.size : Int) = (r.length : Int) + 1 ∧ (1 : Int) ≤ (D.size : Int) ∧ (∃ h0 : 0 < D.size, D[0] = c) ∧ D.extract 1 D.size = ⟨r.toArray⟩ ∧ D.toList.isEmpty = false := by
  have hDs : D.size = r.length + 1 := by rw [h]; show (c :: r).toArray.size = _; simp
  refine ⟨by omega, by omega, ⟨by omega, by subst h; rfl⟩, ?_, ?_⟩
  · subst h
    apply Go.WideShapes.bytes_inj
    simp
    rw [hDs, Nat.add_sub_cancel, List.take_of_length_le (Nat.le_refl _)]
  · cases hh : D.toList with
    | nil => have := (toListNil D).1 hh; omega
    | cons a l => rfl
theorem restLen {L dn r : List UInt8} {n : Nat} (h : L = dn ++ r) (hn : L.length ≤ n) : dn.length ≤ n ∧ r.length ≤ n := by
  have := congrArg List.length h; rw [List.length_append] at this; omega
theorem atG {W W' : World} {B b : Nat} {v : Value} {l : List Sp} {t : TypeId} {cs : Array Value} (hg : W.grownBy W' v.ownBlock) (ho : OwnG W B v l) (hA : At W b t cs) (hb : b < B) : At W' b t cs :=
  (hg.block b hA.lt (fun e => by have := (World.ownsRow.lt ho b e.symm).1; omega)).trans hA
theorem bwG {w0 W W' : World} {v : Value} {l : List Sp} (hg : W.grownBy W' v.ownBlock) (ho : OwnG W w0.heap.size v l) (hB : Below w0.heap.size w0 W) : Below w0.heap.size w0 W' :=
  hB.grown hg hB.size (fun k hk => (World.ownsRow.lt ho k hk).1)
theorem shrink {r : List UInt8} {D : ByteArray} {k : Nat} (h : D.extract (k + 1) D.size = ⟨r.toArray⟩) (h2 : (D.size : Int) = (r.length : Int) + ((k + 1 : Nat) : Int)) : (D.extract (k + 1) D.size).size < D.size := by
  rw [h]
  show r.toArray.size < D.size
  simp; omega
theorem head2F {a b : UInt8} {r : List UInt8} {D : ByteArray} (h : D = ⟨(a :: b :: r).toArray⟩) : (D.size : Int) = (r.length : Int) + 2 ∧ (2 : Int) ≤ (D.size : Int) ∧ (∃ h0 : 0 < D.size, D[0] = a) ∧ (∃ h1 : 1 < D.size, D[1] = b) ∧ D.extract 2 D.size = ⟨r.toArray⟩ ∧ D.toList.isEmpty = false := by
  have hDs : D.size = r.length + 2 := by rw [h]; show (a :: b :: r).toArray.size = _; simp
  refine ⟨by omega, by omega, ⟨by omega, by subst h; rfl⟩, ⟨by omega, by subst h; rfl⟩, ?_, ?_⟩
  · subst h
    apply Go.WideShapes.bytes_inj
    simp
    rw [hDs, Nat.add_sub_cancel, List.take_of_length_le (Nat.le_refl _)]
  · cases hh : D.toList with
    | nil => have := (toListNil D).1 hh; omega
    | cons a l => rfl
theorem u16_le (a b : UInt8) : (a.toNat : Int) * 256 + (b.toNat : Int) ≤ 65535 := by have := a.toNat_lt; have := b.toNat_lt; omega
theorem u16_nn (a b : UInt8) : (0 : Int) ≤ (a.toNat : Int) * 256 + (b.toNat : Int) := by omega
theorem u16_or (a b : UInt8) : bits .or .i64 ((a.toNat : Int) * 256) (b.toNat : Int) = (a.toNat : Int) * 256 + (b.toNat : Int) := or64 (by have := a.toNat_lt; omega) b.toNat_lt
theorem u16_sh (a : UInt8) : wrap64 ((a.toNat : Int) * 256) = (a.toNat : Int) * 256 := by have := a.toNat_lt; unfold wrap64; omega
theorem cdL_two : ∀ (n : Nat) (dn r : List UInt8), dn.length = 2 * n → cdL true (dn ++ r) = cdL true dn ++ cdL true r
  | 0, dn, r, h => by obtain rfl : dn = [] := List.eq_nil_of_length_eq_zero (by omega); rfl
  | n + 1, dn, r, h => by
    match dn, h with
    | a :: b :: t, h =>
      have q := cdL_two n t r (by simp at h; omega)
      show ((a.toNat : Int) * 256 + b.toNat) :: cdL true (t ++ r) = ((a.toNat : Int) * 256 + b.toNat) :: (cdL true t ++ cdL true r)
      rw [q]
    | [a], h => exfalso; simp at h; omega
    | [], h => exfalso; simp at h
theorem cdL_len : ∀ (n : Nat) (dn : List UInt8), dn.length ≤ n → (cdL true dn).length ≤ n
  | 0, dn, h => by obtain rfl : dn = [] := List.eq_nil_of_length_eq_zero (by omega); exact Nat.le_refl _
  | n + 1, dn, h => by
    match dn, h with
    | a :: b :: t, h =>
      have q := cdL_len n t (by simp at h; omega)
      show (_ :: cdL true t).length ≤ _
      rw [List.length_cons]; omega
    | [a], h => exact Nat.zero_le _
    | [], h => exact Nat.zero_le _
theorem leG {a b c : Nat} (h : a ≤ b) (k : b ≤ c) : a ≤ c + 1 := by omega
set_option maxHeartbeats 1000000 in
theorem signs_narrow (F : Ft) (mw mn : Value) (al : Option Addr) (cap : Nat) (s : ByteArray) (w : World) (hw : F.wide = false) (hs : s.size ≤ 1000) (hF : FtAt w F mw mn al) (hT : Tb w) (hf : spFault F.l F.wide = 0) :
    Calls Tryd.prog 19 #[ftV F mw mn al cap, .string s] w fun e w' => ∃ v, e = .returned (.tuple #[v, .nilIface]) ∧ OwnG w' w.heap.size v (sgL F s.data.toList) ∧ Below w.heap.size w w' := by
  have HW := hid (fun W (hB : Below w.heap.size w W) c (h0 : 0 ≤ c) (h1 : c ≤ 65535) => width_says F mw mn al cap c W (hF.later hB) h0 h1)
  have HX := hid (fun W (hB : Below w.heap.size w W) c (h0 : 0 ≤ c) (h1 : c ≤ 65535) => ftext_says F mw mn al cap c W (hF.later hB) (hT.below hB) hf h0 h1)
  have HD := hid (show ∀ dn (c : UInt8), sgL F (dn ++ [c]) = sgL F dn ++ [sgP F (c.toNat : Int)] from fun dn c => by unfold sgL; rw [hw]; simp [cdL])
  have H0 := hid (show sgL F [] = [] by unfold sgL; rw [hw]; rfl)
  have HLN := hid (show ∀ dn, (sgL F dn).length = dn.length from fun dn => by unfold sgL; rw [hw]; simp [cdL])
  have HSZ := hid hs
  obtain ⟨iF, hiF, hf0, hf1, hf2⟩ := info_parts infoSg
  obtain ⟨L, hL⟩ : ∃ L, L = s.data.toList := ⟨_, rfl⟩
  have hsE : s = ⟨L.toArray⟩ := by apply Go.WideShapes.bytes_inj; rw [hL]
  rw [← hL]
  have hLl : L.length ≤ 1000 := by rw [hL]; simpa using hs
  clear hF hT hf hs hL
  subst hsE
  generalize sgL F = SG at *
  unfold ftV at *
  rw [hw] at *
  have hm : (((⟨L.toArray⟩ : ByteArray).size : Int) % 1) = 0 := by omega
  clear hw
  go_enter Tryd.func19, Tryd.ntmps19
  go_wp2_with fail
  have hA0 : At (w.alloc (.cells #[.bool false, mw, .int .i64 F.miss, mn, .slice al F.l.length cap] 44)) w.heap.size 44 #[.bool false, mw, .int .i64 F.miss, mn, .slice al F.l.length cap] := At.new _ _ _ rfl
  have hB0 : Below w.heap.size w (w.alloc (.cells #[.bool false, mw, .int .i64 F.miss, mn, .slice al F.l.length cap] 44)) := by go_grown
  generalize w.alloc (.cells #[.bool false, mw, .int .i64 F.miss, mn, .slice al F.l.length cap] 44) = w0 at hA0 hB0 ⊢
  have hz0 := hA0.lt
  have HA0 := hid hA0
  have HB0 := hid hB0
  clear hA0 hB0
  go_loopw [1, 7] (fun sv v wr => ∃ dn rest, Hid (L = dn ++ rest) ∧ sv = .string ⟨rest.toArray⟩ ∧ OwnG wr w0.heap.size v (SG dn) ∧ Below w0.heap.size w0 wr) (fun sv _ _ => match sv with | .string x => x.size | _ => 0)
  case atStart => exact ⟨[], L, hid rfl, rfl, by rw [H0.out]; exact World.ownsRow_nil _ _ _ _, Below.refl _ _⟩
  case round =>
    obtain ⟨dn, rest, HR, rfl, hO, hB⟩ := hrel
    have hBs := hB.size
    cases rest with
    | nil =>
      go_wp2_with fail
      go_ret2
      have e : dn = L := by rw [HR.out, List.append_nil]
      rw [e] at hO
      exact ⟨_, rfl, hO.base (Nat.le_of_lt hz0), HB0.out.trans (hB.mono (Nat.le_of_lt hz0))⟩
    | cons c r =>
      obtain ⟨D, hDe⟩ : ∃ D : ByteArray, D = ⟨(c :: r).toArray⟩ := ⟨_, rfl⟩
      rw [← hDe]
      obtain ⟨hDs', hD1, ⟨h0, d0⟩, hDx, hie⟩ := headF hDe
      have A0 := HA0.out.later hB
      have k0 := A0.cell 0
      have k1 := A0.cell 1
      have k2 := A0.cell 2
      have k3 := A0.cell 3
      have k4 := A0.cell 4
      have z0 := A0.lt
      simp at k0 k1 k2 k3 k4
      have HDX := hid hDx
      have hwr := u8_wrap c
      have HBW := hid (HB0.out.trans (hB.mono (Nat.le_of_lt hz0)))
      have HWc := hid (fun W (hW : Below w.heap.size w W) => HW.out W hW (c.toNat : Int) (u8_nn c) (u8_le c))
      have HXc := hid (fun W (hW : Below w.heap.size w W) => HX.out W hW (c.toNat : Int) (u8_nn c) (u8_le c))
      have HS0 := hid (ftC A0)
      have HA1 := hid A0
      have HBk := hid hB
      have HNL := hid (show (SG dn).length ≤ 1000000 by rw [HLN.out]; exact Nat.le_trans (restLen HR.out hLl).1 (by decide))
      clear hDe hDx A0 hB
      unfold FtC at HS0
      go_wp2_with fail
      go_region_held3 (fun (w' : World) => w'.cell? ⟨w.heap.size, 0, none⟩ = some (.bool false) ∧ w'.cell? ⟨w.heap.size, 1, none⟩ = some mw ∧ w'.cell? ⟨w.heap.size, 2, none⟩ = some (.int .i64 F.miss) ∧ w'.cell? ⟨w.heap.size, 3, none⟩ = some mn ∧ w'.cell? ⟨w.heap.size, 4, none⟩ = some (.slice al F.l.length cap))
        (first | exact HS3.out | exact HS2.out | exact HS1.out | exact HS0.out | go_keep)
        (first
          | (go_at_call 40; refine (HWc.out _ (by first | exact HBW.out.drew | exact HBW.out)).mono ?_; rintro e w1 ⟨rfl, hb1⟩; (have HB1 := hid (below_undrew hb1)); (have HS1 := hid (ftC (HA1.out.later HB1.out))); unfold FtC at HS1)
          | (go_at_call 41; refine (HXc.out _ (by first | exact chn' HBW.out HB1.out | exact (chn' HBW.out HB1.out).drew)).mono ?_; rintro e w2 ⟨rfl, hb2⟩; (have HB2 := hid (chn' HB1.out hb2)); (have HS2 := hid (ftC (HA1.out.later HB2.out))); unfold FtC at HS2)
          | (refine stepAppG (by rfl) (.tmp 33) (.tmp 42) (by rfl) w0.heap.size _ (SG dn) (by rfl) ((hO.later HB2.out).later (by go_grown)) _ ⟨(c.toNat : Int), wdP F (c.toNat : Int), ⟨(txP F (c.toNat : Int)).toArray⟩⟩ 1 (by rfl) (At.new _ _ _ rfl) HNL.out (by first | exact Nat.le_trans HBk.out.size HB2.out.size | exact Nat.le_trans (Nat.le_trans HBk.out.size HB2.out.size) (by simp)) ?_; intro v3 w3 ho3 hg3; (have HS3 := hid (ftC (atG hg3 ((hO.later HB2.out).later (by go_grown)) ((HA1.out.later HB2.out).alloc _) hz0))); unfold FtC at HS3; (have HB3 := hid (bwG hg3 ((hO.later HB2.out).later (by go_grown)) ((HBk.out.trans (HB2.out.mono HBk.out.size)).alloc (Nat.le_trans HBk.out.size HB2.out.size) _))); clear hg3))
      all_goals
        go_wp2_with fail
        go_roundw
        case rel => exact ⟨dn ++ [c], r, hid (by rw [HR.out]; simp), by rw [← HDX.out], by rw [HD.out]; exact ho3, HB3.out⟩
        case measure => exact shrink HDX.out hDs'
set_option maxHeartbeats 1000000 in
theorem signs_wide (F : Ft) (mw mn : Value) (al : Option Addr) (cap : Nat) (s : ByteArray) (w : World) (hw : F.wide = true) (hs : s.size ≤ 1000) (hev : ∃ m, s.size = 2 * m) (hF : FtAt w F mw mn al) (hT : Tb w) (hf : spFault F.l F.wide = 0) :
    Calls Tryd.prog 19 #[ftV F mw mn al cap, .string s] w fun e w' => ∃ v, e = .returned (.tuple #[v, .nilIface]) ∧ OwnG w' w.heap.size v (sgL F s.data.toList) ∧ Below w.heap.size w w' := by
  have HW := hid (fun W (hB : Below w.heap.size w W) c (h0 : 0 ≤ c) (h1 : c ≤ 65535) => width_says F mw mn al cap c W (hF.later hB) h0 h1)
  have HX := hid (fun W (hB : Below w.heap.size w W) c (h0 : 0 ≤ c) (h1 : c ≤ 65535) => ftext_says F mw mn al cap c W (hF.later hB) (hT.below hB) hf h0 h1)
  have HD := hid (show ∀ dn (a b : UInt8) (n : Nat), dn.length = 2 * n → sgL F (dn ++ [a, b]) = sgL F dn ++ [sgP F ((a.toNat : Int) * 256 + b.toNat)] from fun dn a b n h => by unfold sgL; rw [hw, cdL_two n dn [a, b] h]; simp [cdL])
  have H0 := hid (show sgL F [] = [] by unfold sgL; rw [hw]; rfl)
  have HLN := hid (show ∀ dn, dn.length ≤ 1000 → (sgL F dn).length ≤ 1000 from fun dn h => by unfold sgL; rw [hw, List.length_map]; exact cdL_len 1000 dn h)
  have HSZ := hid hs
  obtain ⟨iF, hiF, hf0, hf1, hf2⟩ := info_parts infoSg
  obtain ⟨L, hL⟩ : ∃ L, L = s.data.toList := ⟨_, rfl⟩
  have hsE : s = ⟨L.toArray⟩ := by apply Go.WideShapes.bytes_inj; rw [hL]
  rw [← hL]
  have hLl : L.length ≤ 1000 := by rw [hL]; simpa using hs
  obtain ⟨m, hm2⟩ := hev
  have hLm : L.length = 2 * m := by rw [hL]; simpa using hm2
  have hmod : ((L.length : Int) % 2) = 0 := by omega
  have HLM := hid hLm
  clear hm2 hLm
  clear hF hT hf hs hL
  subst hsE
  generalize sgL F = SG at *
  unfold ftV at *
  rw [hw] at *
  have hm : (((⟨L.toArray⟩ : ByteArray).size : Int) % 2) = 0 := by
    show ((L.toArray.size : Int) % 2) = 0
    simpa using hmod
  clear hw
  go_enter Tryd.func19, Tryd.ntmps19
  go_wp2_with fail
  have hA0 : At (w.alloc (.cells #[.bool true, mw, .int .i64 F.miss, mn, .slice al F.l.length cap] 44)) w.heap.size 44 #[.bool true, mw, .int .i64 F.miss, mn, .slice al F.l.length cap] := At.new _ _ _ rfl
  have hB0 : Below w.heap.size w (w.alloc (.cells #[.bool true, mw, .int .i64 F.miss, mn, .slice al F.l.length cap] 44)) := by go_grown
  generalize w.alloc (.cells #[.bool true, mw, .int .i64 F.miss, mn, .slice al F.l.length cap] 44) = w0 at hA0 hB0 ⊢
  have hz0 := hA0.lt
  have HA0 := hid hA0
  have HB0 := hid hB0
  clear hA0 hB0
  rw [hmod]
  go_loopw [1, 7] (fun sv v wr => ∃ dn rest, Hid (L = dn ++ rest ∧ ∃ n, dn.length = 2 * n) ∧ sv = .string ⟨rest.toArray⟩ ∧ OwnG wr w0.heap.size v (SG dn) ∧ Below w0.heap.size w0 wr) (fun sv _ _ => match sv with | .string x => x.size | _ => 0)
  case atStart => exact ⟨[], L, hid ⟨rfl, 0, rfl⟩, rfl, by rw [H0.out]; exact World.ownsRow_nil _ _ _ _, Below.refl _ _⟩
  case round =>
    obtain ⟨dn, rest, HR, rfl, hO, hB⟩ := hrel
    have hBs := hB.size
    cases rest with
    | nil =>
      go_wp2_with fail
      go_ret2
      have e : dn = L := by rw [HR.out.1, List.append_nil]
      rw [e] at hO
      exact ⟨_, rfl, hO.base (Nat.le_of_lt hz0), HB0.out.trans (hB.mono (Nat.le_of_lt hz0))⟩
    | cons a r0 =>
      obtain ⟨b, r, rfl⟩ : ∃ b r, r0 = b :: r := by
        cases r0 with
        | nil => exfalso; obtain ⟨q, n, hn⟩ := HR.out; have := congrArg List.length q; rw [List.length_append, hn, HLM.out] at this; simp at this; omega
        | cons b r => exact ⟨b, r, rfl⟩
      obtain ⟨D, hDe⟩ : ∃ D : ByteArray, D = ⟨(a :: b :: r).toArray⟩ := ⟨_, rfl⟩
      rw [← hDe]
      obtain ⟨hDs', hD1, ⟨h0, d0⟩, ⟨h1, d1⟩, hDx, hie⟩ := head2F hDe
      have h1' : (1 : Int) < (D.size : Int) := by exact Int.ofNat_lt.2 h1
      have A0 := HA0.out.later hB
      have k0 := A0.cell 0
      have k1 := A0.cell 1
      have k2 := A0.cell 2
      have k3 := A0.cell 3
      have k4 := A0.cell 4
      have z0 := A0.lt
      simp at k0 k1 k2 k3 k4
      have HDX := hid hDx
      have hwr := u8_wrap a
      have hwr1 := u8_wrap b
      have hor := u16_or a b
      have hsh := u16_sh a
      have HBW := hid (HB0.out.trans (hB.mono (Nat.le_of_lt hz0)))
      have HWc := hid (fun W (hW : Below w.heap.size w W) => HW.out W hW ((a.toNat : Int) * 256 + b.toNat) (u16_nn a b) (u16_le a b))
      have HXc := hid (fun W (hW : Below w.heap.size w W) => HX.out W hW ((a.toNat : Int) * 256 + b.toNat) (u16_nn a b) (u16_le a b))
      have HS0 := hid (ftC A0)
      have HA1 := hid A0
      have HBk := hid hB
      have HNL := hid (show (SG dn).length ≤ 1000000 from Nat.le_trans (HLN.out dn (restLen HR.out.1 hLl).1) (by decide))
      clear hDe hDx A0 hB
      unfold FtC at HS0
      go_wp2_with fail
      go_region_held3 (fun (w' : World) => w'.cell? ⟨w.heap.size, 0, none⟩ = some (.bool true) ∧ w'.cell? ⟨w.heap.size, 1, none⟩ = some mw ∧ w'.cell? ⟨w.heap.size, 2, none⟩ = some (.int .i64 F.miss) ∧ w'.cell? ⟨w.heap.size, 3, none⟩ = some mn ∧ w'.cell? ⟨w.heap.size, 4, none⟩ = some (.slice al F.l.length cap))
        (first | exact HS3.out | exact HS2.out | exact HS1.out | exact HS0.out | go_keep)
        (first
          | (go_at_call 40; refine (HWc.out _ (by first | exact HBW.out.drew | exact HBW.out)).mono ?_; rintro e w1 ⟨rfl, hb1⟩; (have HB1 := hid (below_undrew hb1)); (have HS1 := hid (ftC (HA1.out.later HB1.out))); unfold FtC at HS1)
          | (go_at_call 41; refine (HXc.out _ (by first | exact chn' HBW.out HB1.out | exact (chn' HBW.out HB1.out).drew)).mono ?_; rintro e w2 ⟨rfl, hb2⟩; (have HB2 := hid (chn' HB1.out hb2)); (have HS2 := hid (ftC (HA1.out.later HB2.out))); unfold FtC at HS2)
          | (refine stepAppG (by rfl) (.tmp 33) (.tmp 42) (by rfl) w0.heap.size _ (SG dn) (by rfl) ((hO.later HB2.out).later (by go_grown)) _ ⟨((a.toNat : Int) * 256 + b.toNat), wdP F ((a.toNat : Int) * 256 + b.toNat), ⟨(txP F ((a.toNat : Int) * 256 + b.toNat)).toArray⟩⟩ 1 (by rfl) (At.new _ _ _ rfl) HNL.out (by first | exact Nat.le_trans HBk.out.size HB2.out.size | exact Nat.le_trans (Nat.le_trans HBk.out.size HB2.out.size) (by simp)) ?_; intro v3 w3 ho3 hg3; (have HS3 := hid (ftC (atG hg3 ((hO.later HB2.out).later (by go_grown)) ((HA1.out.later HB2.out).alloc _) hz0))); unfold FtC at HS3; (have HB3 := hid (bwG hg3 ((hO.later HB2.out).later (by go_grown)) ((HBk.out.trans (HB2.out.mono HBk.out.size)).alloc (Nat.le_trans HBk.out.size HB2.out.size) _))); clear hg3))
      all_goals
        go_wp2_with fail
        go_roundw
        case rel => obtain ⟨n, hn⟩ := HR.out.2; exact ⟨dn ++ [a, b], r, hid ⟨by rw [HR.out.1]; simp, n + 1, by rw [List.length_append, hn]; rfl⟩, by rw [← HDX.out], by rw [HD.out dn a b n hn]; exact ho3, HB3.out⟩
        case measure => exact shrink HDX.out hDs'
set_option maxHeartbeats 1000000 in
theorem signs_odd (F : Ft) (mw mn : Value) (al : Option Addr) (cap : Nat) (s : ByteArray) (w : World) (hw : F.wide = true) (hs : s.size ≤ 1000) (hev : ∃ m, s.size = 2 * m + 1) :
    Calls Tryd.prog 19 #[ftV F mw mn al cap, .string s] w fun e w' => e = .returned (.tuple #[.slice none 0 0, errV 4]) ∧ Below w.heap.size w w' := by
  obtain ⟨m, hm⟩ := hev
  have hmod : ((s.size : Int) % 2) = 1 := by omega
  unfold ftV
  rw [hw]
  clear hw hm
  go_enter Tryd.func19, Tryd.ntmps19
  go_wp2_with fail
  go_ret2
  exact ⟨rfl, by go_grown⟩
end Go.Proofs.YtggojafapieliabDoor
