/-
  A code's width and text in a font.
-/
import Derived.Test.YtggojafapieliabDoorGd
namespace Go.Proofs.YtggojafapieliabDoor
open Go.RowKit Go.WideMaps Go.Maps
set_option maxRecDepth 100000
attribute [local go_sem ↓] Go.wp_at_zero Go.wp_at_succ

set_option maxHeartbeats 1000000 in
theorem glyph_says (name : ByteArray) (w : World) (hn : name.size ≤ maxLen) :
    Calls Tryd.prog 17 #[.string name] w fun e w' => e = ansG (glP name.data.toList) ∧ Below w.heap.size w w' := by
  have hsz : name.data.toList.length = name.size := by simp
  by_cases h1 : name.size = 1
  · have h0 : 0 < name.size := by omega
    have hl : name.data.toList = [name[0]] := by
      have q : name.data.toList.length = 1 := by omega
      obtain ⟨c, hc⟩ := List.length_eq_one_iff.1 q
      have : name = ⟨[c].toArray⟩ := by apply Go.WideShapes.bytes_inj; simpa using hc
      subst this
      rfl
    by_cases h2 : isLt name[0] = true
    · have hg : glP name.data.toList = some name.data.toList := by rw [hl]; show (if isLt name[0] then some [name[0]] else glQ [name[0]]) = _; rw [h2]; rfl
      rw [hg]
      have HLT := hid (fun W => by have q := letter_says name[0] W; rw [h2] at q; exact q)
      have h1' : (name.size : Int) = 1 := by omega
      clear h2 hg hl hsz h1
      go_enter Tryd.func17, Tryd.ntmps17
      go_wp2_with (go_at_call 35; refine (HLT.out _).mono ?_; rintro e w9 ⟨rfl, rfl⟩)
      go_ret2
      exact ⟨rfl, Below.refl _ _⟩
    · have h2' : isLt name[0] = false := by simpa using h2
      rw [glP_other (fun c hc => by rw [hl] at hc; injection hc with hc _; rw [← hc]; exact h2')]
      exact glQ_says name w hn (.inr ⟨h0, by omega, h2'⟩)
  · rw [glP_other (fun c hc => by rw [hc] at hsz; exact absurd hsz.symm h1)]
    exact glQ_says name w hn (.inl (by omega))
/-- A font: widths, names, spans. -/
structure Ft where
  wide : Bool
  wf : Int → Option Int
  miss : Int
  nf : Int → Option ByteArray
  l : List Sp
/-- A font in memory. -/
structure FtAt (w : World) (F : Ft) (mw mn : Value) (al : Option Addr) : Prop where
  wd : ∀ W, Below w.heap.size w W → ∀ c : Int, 0 ≤ c → c ≤ 65535 → (Instr.lookup 41 mw (.int .i64 c) true).run Tryd.prog W = .ok (.tuple #[.int .i64 ((F.wf c).getD 0), .bool (F.wf c).isSome]) W
  nm : ∀ W, Below w.heap.size w W → ∀ c : Int, 0 ≤ c → c ≤ 65535 → (Instr.lookup 42 mn (.int .i64 c) true).run Tryd.prog W = .ok (.tuple #[.string ((F.nf c).getD ⟨#[]⟩), .bool (F.nf c).isSome]) W
  ns : ∀ c n, F.nf c = some n → n.size ≤ maxLen
  sp : SpAt w al F.l
  len : F.l.length ≤ maxLen
abbrev ftV (F : Ft) (mw mn : Value) (al : Option Addr) (cap : Nat) : Value := .agg #[.bool F.wide, mw, .int .i64 F.miss, mn, .slice al F.l.length cap]
theorem FtAt.later {w w' : World} {F : Ft} {mw mn : Value} {al : Option Addr} (h : FtAt w F mw mn al) (hb : Below w.heap.size w w') : FtAt w' F mw mn al :=
  ⟨fun W hW => h.wd W (chn' hb hW), fun W hW => h.nm W (chn' hb hW), h.ns, h.sp.later hb, h.len⟩
def wdP (F : Ft) (c : Int) : Int := (F.wf c).getD F.miss
def txP (F : Ft) (c : Int) : List UInt8 := match codeT F.l c with
  | some t => t
  | none => if F.wide then [] else match F.nf c with
    | some n => (glP n.data.toList).getD []
    | none => if 32 ≤ c ∧ c ≤ 126 then [UInt8.ofNat c.toNat] else []
set_option maxHeartbeats 1000000 in
theorem width_says (F : Ft) (mw mn : Value) (al : Option Addr) (cap : Nat) (c : Int) (w : World) (hF : FtAt w F mw mn al) (h0 : 0 ≤ c) (h1 : c ≤ 65535) :
    Calls Tryd.prog 40 #[ftV F mw mn al cap, .int .i64 c] w fun e w' => e = .returned (.int .i64 (wdP F c)) ∧ Below w.heap.size w w' := by
  have hl := fun W hB => hF.wd W hB c h0 h1
  unfold wdP
  obtain ⟨wide, wf, miss, nf, l⟩ := F
  simp only at hl
  have e1 := hl (w.alloc (.cells #[.bool wide, mw, .int .i64 miss, mn, .slice al l.length cap] 44)) (by go_grown)
  unfold ftV
  simp only
  clear hl hF
  cases hw : wf c with
  | some v =>
    rw [hw] at e1
    simp only [Option.getD_some, Option.isSome_some] at e1 ⊢
    clear hw h0 h1
    go_enter Tryd.func40, Tryd.ntmps40
    go_wp2_with fail
    go_ret
    exact ⟨rfl, by go_grown⟩
  | none =>
    rw [hw] at e1
    simp only [Option.getD_none, Option.isSome_none] at e1 ⊢
    clear hw h0 h1
    go_enter Tryd.func40, Tryd.ntmps40
    go_wp2_with fail
    go_ret
    exact ⟨rfl, by go_grown⟩
set_option maxHeartbeats 2000000 in
theorem ftext_says (F : Ft) (mw mn : Value) (al : Option Addr) (cap : Nat) (c : Int) (w : World) (hF : FtAt w F mw mn al) (hT : Tb w) (hf : spFault F.l F.wide = 0) (h0 : 0 ≤ c) (h1 : c ≤ 65535) :
    Calls Tryd.prog 41 #[ftV F mw mn al cap, .int .i64 c] w fun e w' => e = .returned (.string ⟨(txP F c).toArray⟩) ∧ Below w.heap.size w w' := by
  have hl := fun W hB => hF.nm W hB c h0 h1
  have hns := hF.ns c
  have htx := fun W (hB : Below w.heap.size w W) => text_sp F.l F.wide c al cap W hF.len (hF.sp.later hB) (hT.below hB) hf
  unfold txP
  obtain ⟨wide, wf, miss, nf, l⟩ := F
  simp only at hl hns htx
  unfold ftV
  simp only
  clear hF hf hT
  cases hc : codeT l c with
  | some t =>
    rw [hc] at htx
    simp only [Option.getD_some, Option.isSome_some] at htx ⊢
    have HX := hid htx
    clear hc htx hl hns h0 h1
    go_enter Tryd.func41, Tryd.ntmps41
    go_wp2_with (go_at_call 14; fail)
    go_at_call 14
    refine (HX.out _ (by go_grown)).mono ?_
    rintro e w1 ⟨rfl, hb1⟩
    have hB1 : Below w.heap.size w w1 := chn' (by go_grown) hb1
    have A1 := At.later (At.new w #[.bool wide, mw, .int .i64 miss, mn, .slice al l.length cap] 44 rfl) hb1
    have z1 := A1.lt
    have k0 := A1.cell 0
    simp at k0
    clear hb1 HX A1
    go_wp2_with fail
    go_ret
    exact ⟨rfl, hB1⟩
  | none =>
    rw [hc] at htx
    simp only [Option.getD_none, Option.isSome_none] at htx ⊢
    have HX := hid htx
    have HL := hid hl
    clear hc htx hl
    cases wide with
    | true =>
      simp only [if_true]
      clear HL hns h0 h1
      go_enter Tryd.func41, Tryd.ntmps41
      go_wp2_with (go_at_call 14; fail)
      go_at_call 14
      refine (HX.out _ (by go_grown)).mono ?_
      rintro e w1 ⟨rfl, hb1⟩
      have hB1 : Below w.heap.size w w1 := chn' (by go_grown) hb1
      have A1 := At.later (At.new w #[.bool true, mw, .int .i64 miss, mn, .slice al l.length cap] 44 rfl) hb1
      have z1 := A1.lt
      have k0 := A1.cell 0
      simp at k0
      clear hb1 HX A1
      go_wp2_with fail
      go_ret
      exact ⟨rfl, hB1⟩
    | false =>
      simp only [Bool.false_eq_true, if_false]
      cases hn : nf c with
      | some n =>
        have hsz := hns n hn
        rw [hn] at HL
        simp only [Option.getD_some, Option.isSome_some] at HL ⊢
        have HG := hid (fun W => glyph_says n W hsz)
        clear hn hns hsz h0 h1
        go_enter Tryd.func41, Tryd.ntmps41
        go_wp2_with (go_at_call 14; fail)
        go_at_call 14
        refine (HX.out _ (by go_grown)).mono ?_
        rintro e w1 ⟨rfl, hb1⟩
        have hB1 : Below w.heap.size w w1 := chn' (by go_grown) hb1
        have A1 := At.later (At.new w #[.bool false, mw, .int .i64 miss, mn, .slice al l.length cap] 44 rfl) hb1
        have z1 := A1.lt
        have k0 := A1.cell 0
        have k3 := A1.cell 3
        simp at k0 k3
        have e1 := HL.out w1 hB1
        clear hb1 HX A1 HL
        go_wp2_with (go_at_call 17; fail)
        go_at_call 17
        refine (HG.out _).mono ?_
        rintro e w2 ⟨rfl, hb2⟩
        unfold ansG
        go_wp2_with fail
        go_ret
        exact ⟨rfl, chn' hB1 hb2⟩
      | none =>
        rw [hn] at HL
        simp only [Option.getD_none, Option.isSome_none] at HL ⊢
        clear hn hns
        by_cases c1 : 32 ≤ c
        · by_cases c2 : c ≤ 126
          · rw [if_pos ⟨c1, c2⟩]
            have E : Utf8.encode c = ⟨[UInt8.ofNat c.toNat].toArray⟩ := by
              apply Go.WideShapes.bytes_inj
              have q := encLen c.toNat (.inl (by omega))
              rw [show ((c.toNat : Nat) : Int) = c by omega] at q
              rw [q]
              unfold encR
              rw [if_pos (by omega)]
            have HE := hid E
            clear E
            go_enter Tryd.func41, Tryd.ntmps41
            go_wp2_with (go_at_call 14; fail)
            go_at_call 14
            refine (HX.out _ (by go_grown)).mono ?_
            rintro e w1 ⟨rfl, hb1⟩
            have hB1 : Below w.heap.size w w1 := chn' (by go_grown) hb1
            have A1 := At.later (At.new w #[.bool false, mw, .int .i64 miss, mn, .slice al l.length cap] 44 rfl) hb1
            have z1 := A1.lt
            have k0 := A1.cell 0
            have k3 := A1.cell 3
            simp at k0 k3
            have e1 := HL.out w1 hB1
            clear hb1 HX A1 HL
            go_wp2_with fail
            go_ret
            refine ⟨?_, hB1⟩
            show Ending.returned (.string (Utf8.encode c)) = _
            rw [HE.out]
          · rw [if_neg (fun q => c2 q.2)]
            go_enter Tryd.func41, Tryd.ntmps41
            go_wp2_with (go_at_call 14; fail)
            go_at_call 14
            refine (HX.out _ (by go_grown)).mono ?_
            rintro e w1 ⟨rfl, hb1⟩
            have hB1 : Below w.heap.size w w1 := chn' (by go_grown) hb1
            have A1 := At.later (At.new w #[.bool false, mw, .int .i64 miss, mn, .slice al l.length cap] 44 rfl) hb1
            have z1 := A1.lt
            have k0 := A1.cell 0
            have k3 := A1.cell 3
            simp at k0 k3
            have e1 := HL.out w1 hB1
            clear hb1 HX A1 HL
            go_wp2_with fail
            go_ret
            exact ⟨rfl, hB1⟩
        · rw [if_neg (fun q => c1 q.1)]
          go_enter Tryd.func41, Tryd.ntmps41
          go_wp2_with (go_at_call 14; fail)
          go_at_call 14
          refine (HX.out _ (by go_grown)).mono ?_
          rintro e w1 ⟨rfl, hb1⟩
          have hB1 : Below w.heap.size w w1 := chn' (by go_grown) hb1
          have A1 := At.later (At.new w #[.bool false, mw, .int .i64 miss, mn, .slice al l.length cap] 44 rfl) hb1
          have z1 := A1.lt
          have k0 := A1.cell 0
          have k3 := A1.cell 3
          simp at k0 k3
          have e1 := HL.out w1 hB1
          clear hb1 HX A1 HL
          go_wp2_with fail
          go_ret
          exact ⟨rfl, hB1⟩
end Go.Proofs.YtggojafapieliabDoor
