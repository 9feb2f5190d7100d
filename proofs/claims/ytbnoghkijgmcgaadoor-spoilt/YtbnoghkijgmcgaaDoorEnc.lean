/- Encode, whole. -/
import Derived.Test.YtbnoghkijgmcgaaDoorPutA
import Derived.Test.YtbnoghkijgmcgaaDoorParseA
set_option linter.unusedVariables false
namespace Go.Proofs.YtbnoghkijgmcgaaDoor
open Go.RowKit

def veRes (w w' : World) (e : Ending) : Option (List UInt8) → Prop
  | none => e = .returned (.tuple #[.slice none 0 0, .bool false])
  | some o => ∃ ov, e = .returned (.tuple #[ov, .bool true]) ∧ w'.ownsRow w.heap.size 5 1 ov o.length (bcells o)

set_option maxRecDepth 8000 in
set_option maxHeartbeats 400000 in
theorem ve_none (w : World) (sg sh sz : Nat) (lo hi : Int) (tx : Bool) (fn : Nat) (pa : Option Addr) (pn pc : Nat) (vn : Int) (vs : ByteArray) (la : Option Addr) (ln lc : Nat)
    (HP : Hid (∀ W, Below w.heap.size w W → Calls Tryd.prog 32 #[.slice none 0 0, tyv sg sh sz lo hi tx fn (.slice pa pn pc), vv vn vs (.slice la ln lc)] W fun e w' => (∃ a m c, e = .returned (.tuple #[.slice a m c, .bool false])) ∧ Below W.heap.size W w')) :
    Calls Tryd.prog 20 #[tyv sg sh sz lo hi tx fn (.slice pa pn pc), vv vn vs (.slice la ln lc)] w fun e w' => veRes w w' e none ∧ Below w.heap.size w w' := by
  go_enter Tryd.func20, Tryd.ntmps20
  go_wp2_with (go_at_call 32; refine (HP.out _ (below2 _ _ _)).mono ?_; rintro e w1 ⟨⟨a, m, c, rfl⟩, hb1⟩; have HB1 : Hid (Below w.heap.size w w1) := (below2 _ _ _).trans (hb1.mono (by simp; omega)); clear hb1)
  go_ret2
  exact ⟨rfl, HB1.out⟩

set_option maxRecDepth 8000 in
set_option maxHeartbeats 400000 in
theorem ve_some (w : World) (sg sh sz : Nat) (lo hi : Int) (tx : Bool) (fn : Nat) (pa : Option Addr) (pn pc : Nat) (vn : Int) (vs : ByteArray) (la : Option Addr) (ln lc : Nat) (q : Value → World → Prop)
    (HP : Hid (∀ W, Below w.heap.size w W → Calls Tryd.prog 32 #[.slice none 0 0, tyv sg sh sz lo hi tx fn (.slice pa pn pc), vv vn vs (.slice la ln lc)] W fun e w' => (∃ ov, e = .returned (.tuple #[ov, .bool true]) ∧ q ov w') ∧ Below W.heap.size W w')) :
    Calls Tryd.prog 20 #[tyv sg sh sz lo hi tx fn (.slice pa pn pc), vv vn vs (.slice la ln lc)] w fun e w' => (∃ ov, e = .returned (.tuple #[ov, .bool true]) ∧ q ov w') ∧ Below w.heap.size w w' := by
  go_enter Tryd.func20, Tryd.ntmps20
  go_wp2_with (go_at_call 32; refine (HP.out _ (below2 _ _ _)).mono ?_; rintro e w1 ⟨⟨ov, rfl, hq⟩, hb1⟩; have HQ := hide hq; have HB1 : Hid (Below w.heap.size w w1) := (below2 _ _ _).trans (hb1.mono (by simp; omega)); clear hb1 hq)
  go_ret2
  exact ⟨⟨_, rfl, HQ.out⟩, HB1.out⟩

/-- What Encode leaves. -/
def eRes (w w' : World) (e : Ending) : Except Nat (List UInt8) → Prop
  | .error c => e = .returned (.tuple #[.slice none 0 0, .int .i64 c])
  | .ok b => ∃ ov, e = .returned (.tuple #[ov, .int .i64 0]) ∧ w'.ownsRow w.heap.size 5 1 ov b.length (bcells b)

set_option maxRecDepth 8000 in
set_option maxHeartbeats 400000 in
theorem e_schema (w : World) (str : ByteArray) (vn : Int) (vs : ByteArray) (la : Option Addr) (ln lc : Nat)
    (HC : Hid (∀ W, Below w.heap.size w W → Calls Tryd.prog 19 #[.string str] W fun e w' => parseRes W w' e none ∧ Below W.heap.size W w')) :
    Calls Tryd.prog 8 #[.string str, vv vn vs (.slice la ln lc)] w fun e w' => eRes w w' e (.error 1) ∧ Below w.heap.size w w' := by
  go_enter Tryd.func8, Tryd.ntmps8
  go_wp2_with (go_at_call 19; refine (HC.out _ (below1 _ _)).mono ?_; rintro e w1 ⟨⟨sg, sh, sz, lo, hi, tx, fn, p, m, n, rfl⟩, hb1⟩; have HB1 : Hid (Below w.heap.size w w1) := (below1 _ _).trans (hb1.mono (by simp)); clear hb1)
  go_ret2
  exact ⟨rfl, HB1.out.alloc HB1.out.size _⟩

set_option maxRecDepth 8000 in
set_option maxHeartbeats 400000 in
theorem e_value (w : World) (str : ByteArray) (vn : Int) (vs : ByteArray) (la : Option Addr) (ln lc : Nat) (sg sh sz : Nat) (lo hi : Int) (tx : Bool) (fn : Nat) (q : Option Addr → Nat → Nat → World → Prop)
    (HC : Hid (∀ W, Below w.heap.size w W → Calls Tryd.prog 19 #[.string str] W fun e w' => (∃ p m n, e = .returned (.tuple #[tyv sg sh sz lo hi tx fn (.slice p m n), .bool true]) ∧ q p m n w') ∧ Below W.heap.size W w'))
    (HE : Hid (∀ wb W p m n, q p m n wb → Below wb.heap.size wb W → Below w.heap.size w W → Calls Tryd.prog 20 #[tyv sg sh sz lo hi tx fn (.slice p m n), vv vn vs (.slice la ln lc)] W fun e w' => e = .returned (.tuple #[.slice none 0 0, .bool false]) ∧ Below W.heap.size W w')) :
    Calls Tryd.prog 8 #[.string str, vv vn vs (.slice la ln lc)] w fun e w' => eRes w w' e (.error 2) ∧ Below w.heap.size w w' := by
  have N0 := hide (heap_alloc_new w (.cells #[.int .i64 vn, .string vs, .slice la ln lc] 31))
  go_enter Tryd.func8, Tryd.ntmps8
  go_wp2_with (first
    | (go_at_call 19; refine (HC.out _ (below1 _ _)).mono ?_; rintro e w1 ⟨⟨p, m, n, rfl, hq⟩, hb1⟩; have HQ := hide hq; have HB1 : Hid (Below w.heap.size w w1) := (below1 _ _).trans (hb1.mono (by simp)); have m0 := (hb1.block _ (ltOf N0.out)).trans N0.out; have hlt0 := ltOf m0; have b0 := cellOf (j := 0) m0 rfl; have b1 := cellOf (j := 1) m0 rfl; have b2 := cellOf (j := 2) m0 rfl; clear hb1 hq m0)
    | (go_at_call 20; refine (HE.out w1 _ p m n HQ.out (below1 _ _) (HB1.out.alloc HB1.out.size _)).mono ?_; rintro e w2 ⟨rfl, hb2⟩; have HB2 : Hid (Below w.heap.size w w2) := (HB1.out.alloc HB1.out.size _).trans (hb2.mono (by have := HB1.out.size; simp; omega)); clear hb2))
  go_ret2
  exact ⟨rfl, HB2.out⟩

set_option maxRecDepth 8000 in
set_option maxHeartbeats 400000 in
theorem e_ok (w : World) (str : ByteArray) (vn : Int) (vs : ByteArray) (la : Option Addr) (ln lc : Nat) (sg sh sz : Nat) (lo hi : Int) (tx : Bool) (fn : Nat) (q : Option Addr → Nat → Nat → World → Prop) (r : World → Value → World → Prop)
    (HC : Hid (∀ W, Below w.heap.size w W → Calls Tryd.prog 19 #[.string str] W fun e w' => (∃ p m n, e = .returned (.tuple #[tyv sg sh sz lo hi tx fn (.slice p m n), .bool true]) ∧ q p m n w') ∧ Below W.heap.size W w'))
    (HE : Hid (∀ wb W p m n, q p m n wb → Below wb.heap.size wb W → Below w.heap.size w W → Calls Tryd.prog 20 #[tyv sg sh sz lo hi tx fn (.slice p m n), vv vn vs (.slice la ln lc)] W fun e w' => (∃ ov, e = .returned (.tuple #[ov, .bool true]) ∧ r W ov w') ∧ Below W.heap.size W w')) :
    Calls Tryd.prog 8 #[.string str, vv vn vs (.slice la ln lc)] w fun e w' => (∃ ov W, e = .returned (.tuple #[ov, .int .i64 0]) ∧ r W ov w' ∧ w.heap.size ≤ W.heap.size) ∧ Below w.heap.size w w' := by
  have N0 := hide (heap_alloc_new w (.cells #[.int .i64 vn, .string vs, .slice la ln lc] 31))
  go_enter Tryd.func8, Tryd.ntmps8
  go_wp2_with (first
    | (go_at_call 19; refine (HC.out _ (below1 _ _)).mono ?_; rintro e w1 ⟨⟨p, m, n, rfl, hq⟩, hb1⟩; have HQ := hide hq; have HB1 : Hid (Below w.heap.size w w1) := (below1 _ _).trans (hb1.mono (by simp)); have m0 := (hb1.block _ (ltOf N0.out)).trans N0.out; have hlt0 := ltOf m0; have b0 := cellOf (j := 0) m0 rfl; have b1 := cellOf (j := 1) m0 rfl; have b2 := cellOf (j := 2) m0 rfl; clear hb1 hq m0)
    | (go_at_call 20; refine (HE.out w1 _ p m n HQ.out (below1 _ _) (HB1.out.alloc HB1.out.size _)).mono ?_; rintro e w2 ⟨⟨ov, rfl, hr⟩, hb2⟩; have HR := hide hr; have HB2 : Hid (Below w.heap.size w w2) := (HB1.out.alloc HB1.out.size _).trans (hb2.mono (by have := HB1.out.size; simp; omega)); clear hb2 hr))
  go_ret2
  exact ⟨⟨_, _, rfl, HR.out, by have := HB1.out.size; simp; omega⟩, HB2.out⟩

section
variable {valid : ByteArray → Bool} {Tabs : World → Prop}

theorem ve_any (U : Utf valid Tabs) (w : World) (hT : Tabs w) (t : Orch.Ty) (hok : okT 9 t) (S : Nat → Prop) (psv : Value) (hts : TsAt w S t.ps psv) (v : Orch.V) (lv : Value) (hvs : VsAt w S v.l lv) (hS : ∀ b, S b → b < w.heap.size) :
    Calls Tryd.prog 20 #[tval t.l psv, vval v lv] w fun e w' => veRes w w' e (Orch.put valid 9 [] t v) ∧ Below w.heap.size w w' := by
  obtain ⟨pa, pc, rfl⟩ := hts.shape
  obtain ⟨la, lc, rfl⟩ := hvs.shape
  have hp : ∀ W, Below w.heap.size w W → Calls Tryd.prog 32 #[.slice none 0 0, tval t.l (.slice pa t.ps.length pc), vval v (.slice la v.l.length lc)] W fun e w' => puRes W.heap.size W w' (.slice none 0 0) e (Orch.put valid 9 [] t v) := fun W hb =>
    pu_all U 9 (by omega) W (U.kept (U.size hT) hb hT) W.heap.size (Nat.le_trans (U.size hT) hb.size) (Nat.le_refl _) t hok _ (hts.congr (fun b h => Nat.lt_of_lt_of_le (hS b h) hb.size) (fun b h => hb.block b (hS b h))) v _ (hvs.congr (fun b h => Nat.lt_of_lt_of_le (hS b h) hb.size) (fun b h => hb.block b (hS b h))) _ [] (by simp) (World.ownsRow_nil _ _ _ _)
  cases hq : Orch.put valid 9 [] t v with
  | none =>
    rw [hq] at hp
    refine ve_none w _ _ _ _ _ _ _ pa _ pc _ _ la _ lc (fun W hb => (hp W hb).mono ?_)
    rintro e w' ⟨he, hg⟩
    exact ⟨he, hg.os, hg.tape, hg.output, hg.size, fun k hk => hg.block k hk (by simp [Value.ownBlock])⟩
  | some o =>
    rw [hq] at hp
    refine (ve_some w _ _ _ _ _ _ _ pa _ pc _ _ la _ lc (fun ov w' => w'.ownsRow w.heap.size 5 1 ov o.length (bcells o)) (fun W hb => (hp W hb).mono ?_)).mono (fun e w' h => h)
    rintro e w' ⟨ov, rfl, ho, hout⟩
    have hg := hout.grown
    refine ⟨⟨ov, rfl, ⟨ho.1, ?_⟩⟩, hg.os, hg.tape, hg.output, hg.size, fun k hk => hg.block k hk (by simp [Value.ownBlock])⟩
    rcases ho.2 with h | ⟨g, cap, cur, h1, h2, h3⟩
    · exact Or.inl h
    · exact Or.inr ⟨g, cap, cur, h1, Nat.le_trans hb.size h2, h3⟩

/-- Encode: every text, every value. -/
theorem encode_any (U : Utf valid Tabs) (w : World) (hT : Tabs w) (hL : Table w) (str : ByteArray) (v : Orch.V) (S : Nat → Prop) (lv : Value) (hvs : VsAt w S v.l lv) (hS : ∀ b, S b → b < w.heap.size) :
    Calls Tryd.prog 8 #[.string str, vval v lv] w fun e w' => eRes w w' e (Orch.encode valid str.data.toList v) ∧ Below w.heap.size w w' := by
  obtain ⟨la, lc, rfl⟩ := hvs.shape
  have hp : ∀ W, Below w.heap.size w W → Calls Tryd.prog 19 #[.string str] W fun e w' => parseRes W w' e (Orch.parse str.data.toList) ∧ Below W.heap.size W w' := fun W hb => parse_any W str (hL.below hb hL.pos)
  unfold Orch.encode
  cases hq : Orch.parse str.data.toList with
  | none =>
    rw [hq] at hp
    exact e_schema w str _ _ la _ lc hp
  | some t =>
    have hok := parse_ok hq
    rw [hq] at hp
    have hp' : ∀ W, Below w.heap.size w W → Calls Tryd.prog 19 #[.string str] W fun e w' => (∃ p m n, e = .returned (.tuple #[tyv t.l.sign.toNat t.l.shape t.l.size t.l.least t.l.most t.l.text t.l.fin.toNat (.slice p m n), .bool true]) ∧ TsAt w' (fun b => b < w'.heap.size) t.ps (.slice p m n)) ∧ Below W.heap.size W w' := fun W hb => (hp W hb).mono (by
      rintro e w' ⟨⟨psv, rfl, hts⟩, hb'⟩
      obtain ⟨pa, pc, rfl⟩ := hts.shape
      exact ⟨⟨pa, _, pc, rfl, hts.congr (fun b hb => hb.2) (fun _ _ => rfl)⟩, hb'⟩)
    have he : ∀ wb W p m n, TsAt wb (fun b => b < wb.heap.size) t.ps (.slice p m n) → Below wb.heap.size wb W → Below w.heap.size w W → Calls Tryd.prog 20 #[tval t.l (.slice p m n), vval v (.slice la v.l.length lc)] W fun e w' => veRes W w' e (Orch.put valid 9 [] t v) ∧ Below W.heap.size W w' := fun wb W p m n hts hbW hbw =>
      ve_any U W (U.kept (U.size hT) hbw hT) t hok (fun b => b < W.heap.size) _ (hts.congr (fun b h => Nat.lt_of_lt_of_le h hbW.size) (fun b hb => hbW.block b hb)) v _ (hvs.congr (fun b h => Nat.lt_of_lt_of_le (hS b h) hbw.size) (fun b h => hbw.block b (hS b h))) (fun _ h => h)
    simp only
    cases hu : Orch.put valid 9 [] t v with
    | none =>
      rw [hu] at he
      exact e_value w str _ _ la _ lc _ _ _ _ _ _ _ (fun p m n w' => TsAt w' (fun b => b < w'.heap.size) t.ps (.slice p m n)) hp' he
    | some b =>
      rw [hu] at he
      refine (e_ok w str _ _ la _ lc _ _ _ _ _ _ _ (fun p m n w' => TsAt w' (fun b => b < w'.heap.size) t.ps (.slice p m n)) (fun W ov w' => w'.ownsRow W.heap.size 5 1 ov b.length (bcells b)) hp' he).mono ?_
      rintro e w' ⟨⟨ov, W, rfl, ho, hs⟩, hb⟩
      refine ⟨⟨ov, rfl, ho.1, ?_⟩, hb⟩
      rcases ho.2 with h | ⟨g, cap, cur, h1, h2, h3⟩
      · exact Or.inl h
      · exact Or.inr ⟨g, cap, cur, h1, Nat.le_trans hs h2, h3⟩
end
end Go.Proofs.YtbnoghkijgmcgaaDoor
