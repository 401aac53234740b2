/-
  Reading a program: how many bytes codes have.
-/
import Derived.Test.YtggojafapieliabDoorDb
namespace Go.Proofs.YtggojafapieliabDoor
open Go.RowKit
set_option maxRecDepth 100000
attribute [local go_sem ↓] Go.wp_at_zero Go.wp_at_succ

/-- What a reader's next token is. -/
def Tok (P : Nat) (s : ByteArray) (a : Nat) (t : ByteArray) (b : Nat) : Prop := ∀ (W : World) (bt : Int) (sp : Value), RdC W P s a bt sp → Calls Tryd.prog 43 #[.pointer (some ⟨P, 0, none⟩)] W fun e w' => e = .returned (.tuple #[.string t, .nilIface]) ∧ RdC w' P s b bt sp ∧ KeepBut P W w'
theorem RdC.lat {w w' : World} {P : Nat} {s : ByteArray} {a : Nat} {bt : Int} {sp : Value} (h : RdC w P s a bt sp) (hb : Below w.heap.size w w') : RdC w' P s a bt sp := At.later h hb
theorem own_len {w : World} {B : Nat} {v : Value} {xs : List UInt8} (h : Own8 w B v xs) : ∃ al c, v = .slice al xs.length c := by
  obtain ⟨_, ⟨rfl, h2⟩ | ⟨g, cap, cur, rfl, _⟩⟩ := h
  · exact ⟨none, 0, by rw [h2]⟩
  · exact ⟨some ⟨g, 0, none⟩, cap, rfl⟩
set_option maxHeartbeats 1000000 in
theorem space1 (P : Nat) (s t1 t2 : ByteArray) (c1 c2 : UInt8) (a b : Nat) (bt : Int) (sp : Value) (w : World) (h1 : t1.data.toList = strH [c1]) (h2 : t2.data.toList = strH [c2]) (ht : Tok P s a t2 b) (hA : RdC w P s a bt sp) :
    Calls Tryd.prog 45 #[.pointer (some ⟨P, 0, none⟩), .string t1] w fun e w' => e = .returned .nilIface ∧ RdC w' P s b 1 sp ∧ KeepBut P w w' := by
  have HT := hid ht
  have H1 := hid h1
  have H2 := hid h2
  have HA := hid hA
  clear ht h1 h2 hA
  go_enter Tryd.func45, Tryd.ntmps45
  go_wp2_with (go_at_call 67; fail)
  go_at_call 67
  refine (stringBytes_says t1 [c1] _ H1.out (by simp)).mono ?_
  rintro e w1 ⟨v1, rfl, ho1, hb1⟩
  obtain ⟨al1, k1, rfl⟩ := own_len ho1
  have A1 := HA.out.later hb1
  have K1 : KeepBut P w w1 := .of hb1
  clear hb1 ho1
  go_wp2_with (go_at_call 43; fail)
  go_at_call 43
  refine (HT.out _ _ _ A1).mono ?_
  rintro e w2 ⟨rfl, A2, K2⟩
  have K2' := K1.trans K2
  clear K1 K2 A1
  go_wp2_with (go_at_call 67; fail)
  go_at_call 67
  refine (stringBytes_says t2 [c2] _ H2.out (by simp)).mono ?_
  rintro e w3 ⟨v3, rfl, ho3, hb3⟩
  obtain ⟨al3, k3, rfl⟩ := own_len ho3
  have A3 := A2.later hb3
  have K3 := K2'.then hb3
  clear hb3 ho3 A2 K2'
  have f2 := A3.free 2
  have c2' := A3.cell 2
  have z3 := A3.lt
  simp at c2'
  go_wp2_with fail
  go_ret
  refine ⟨rfl, ?_, K3.set 2 _⟩
  have q : At (w3.setCell ⟨P, 2, none⟩ (.int .i64 1)) P 59 #[.string s, .int .i64 (b : Int), .int .i64 1, sp] := by
    unfold At
    rw [setCell_eq_setRow w3 P 2 _ _ (0, 0) _ A3]
    exact setRow_heap w3 P _ _ _ _ A3
  exact q
end Go.Proofs.YtggojafapieliabDoor
