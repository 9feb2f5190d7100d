/- The caller's step, whatever the goods. -/
import Derived.Test.YtlghcldiboecoaaGreatDoorKTurn
set_option linter.unusedVariables false
namespace Go.Proofs.YtlghcldiboecoaaGreatDoor
open Go.RowKit

theorem Fr.after {w W w' : World} {WB : Nat} {row : Option Nat} (h : Fr W w' WB row) (hb : Below w.heap.size w W) : Fr w w' WB row :=
  ⟨h.os.trans hb.os, h.tape.trans hb.tape, h.output.trans hb.output, Nat.le_trans hb.size h.size, fun b h1 h2 h3 => (h.block b (Nat.lt_of_lt_of_le h1 hb.size) h2 h3).trans (hb.block b h1)⟩

theorem Fr.below {w w' w2 : World} {WB : Nat} {row : Option Nat} (h : Fr w w' WB row) (hb : Below w'.heap.size w' w2) : Fr w w2 WB row :=
  ⟨hb.os.trans h.os, hb.tape.trans h.tape, hb.output.trans h.output, Nat.le_trans h.size hb.size, fun b h1 h2 h3 => (hb.block b (Nat.lt_of_lt_of_le h1 h.size)).trans (h.block b h1 h2 h3)⟩

/-- The goods that a script speaks of. -/
structure Goods (w : World) (WB : Nat) (S : Nat → Prop) (vs : List Orch.V) (gv : Value) : Prop where
  at' : WsAt w S vs gv
  low : ∀ b, S b → b < WB
  len : vs.length ≤ 4000000
  ok : ∀ v, v ∈ vs → InV v ∧ cntV v ≤ 2000000
  tabs : Lib.Utf8Tabs 6 7 w
  tab : Table w
  top : gTop ≤ WB

theorem Goods.keep {w w' : World} {WB : Nat} {S : Nat → Prop} {vs : List Orch.V} {gv : Value} (h : Goods w WB S vs gv) (hb : Below WB w w') : Goods w' WB S vs gv :=
  ⟨h.at'.congr (fun b hb' => hb') (fun b hb' => hb.block b (h.low b hb')), h.low, h.len, h.ok, utf.kept h.top hb h.tabs, h.tab.below hb (by have := h.top; unfold gTop at this; omega), h.top⟩

theorem codes_any (w : World) (WB B : Nat) (gv gt : Value) (N : Nat) (ba : Option Addr) (bc : Nat) (flat : List Value) (hbk : Bk w WB B gv gt N ba bc flat) (hN : N ≤ 1000000000) (S : Nat → Prop) (vs : List Orch.V) (hg : Goods w WB S vs gv)
    (a b c : Int) (s t : ByteArray) (h0 : -9223372036854775808 ≤ a) (h1 : a ≤ 9223372036854775807) (hs : s.size ≤ 140737488355328) :
    Calls Tryz.prog 52 #[.pointer (some ⟨WB, 0, none⟩), opv 1 a b c s t] w fun e w' => e = .returned (.bool true) ∧ (∃ N' ba' bc' flat', N' ≤ N + 1 ∧ Bk w' WB B gv gt N' ba' bc' flat') ∧ Fr w w' WB (Value.slice ba N bc).ownBlock := by
  have hnone : ∀ (ga : Option Addr) (gc : Nat), gv = .slice ga 0 gc → Calls Tryz.prog 52 #[.pointer (some ⟨WB, 0, none⟩), opv 1 a b c s t] w fun e w' => e = .returned (.bool true) ∧ (∃ N' ba' bc' flat', N' ≤ N + 1 ∧ Bk w' WB B gv gt N' ba' bc' flat') ∧ Fr w w' WB (Value.slice ba N bc).ownBlock := by
    intro ga gc hgv
    refine (codes_none w WB ga gc [gt, .slice none 0 0, .slice none 0 0, .slice ba N bc, .slice none 0 0, .slice none 0 0, .slice none 0 0] a b c s t (by rw [← hgv]; exact hbk.blk)).mono ?_
    rintro e w' ⟨rfl, hb⟩
    exact ⟨rfl, ⟨N, ba, bc, flat, by omega, hbk.below hb⟩, Fr.of_below hb⟩
  cases hws : hg.at' with
  | nil => exact hnone _ _ rfl
  | emp x y => exact hnone _ _ rfl
  | row ps g o cap hp0 hcap hS hc hr =>
    have hpl : 0 < ps.length := List.length_pos_iff.2 hp0
    have hlen := hg.len
    rw [List.length_map] at hlen
    have hz := pk_lt a hpl
    obtain ⟨xa, xc, hx⟩ := (hr ps[pk a ps.length] (List.getElem_mem hz)).shape
    have hws' := hr ps[pk a ps.length] (List.getElem_mem hz)
    have hok := hg.ok ps[pk a ps.length].1 (List.mem_map.2 ⟨_, List.getElem_mem hz, rfl⟩)
    have hcell : ∀ j u, (vcell ps[pk a ps.length])[j]? = some u → w.cell? ⟨g, o + pk a ps.length * 3 + j, none⟩ = some u := fun j u hj => by
      rw [Nat.add_assoc]
      refine hc _ u ?_
      have hj3 : j < 3 := by have := (List.getElem?_eq_some_iff.1 hj).1; rwa [vcell_len] at this
      rw [flat_get vcell 3 vcell_len ps _ j hj3, List.getElem?_eq_getElem hz, Option.bind_some]
      exact hj
    have hglow := hg.low g hS
    rw [hx] at hws'
    refine (codes_enc w WB B gt N ba bc flat a b c s t g o ps.length cap hpl hcap h0 h1 (by omega) hbk hN hg.tabs hg.tab hg.top hs S hg.low ps[pk a ps.length].1 hok.1 hok.2 xa _ xc hws' (by have := ltOf hbk.blk; omega) (hcell 0 _ rfl) (hcell 1 _ rfl) (by rw [← hx]; exact hcell 2 _ rfl)).mono ?_
    rintro e w' ⟨rfl, ⟨ba', bc', flat', hb'⟩, hfr⟩
    exact ⟨rfl, ⟨N + 1, ba', bc', flat', Nat.le_refl _, hb'⟩, hfr⟩

theorem step_any (w : World) (WB B : Nat) (gv gt : Value) (N : Nat) (ba : Option Addr) (bc : Nat) (flat : List Value) (hbk : Bk w WB B gv gt N ba bc flat) (hN : N ≤ 1000000000) (S : Nat → Prop) (vs : List Orch.V) (hg : Goods w WB S vs gv)
    (a b c : Int) (s t : ByteArray) (h0 : -9223372036854775808 ≤ a) (h1 : a ≤ 9223372036854775807) (hs : s.size ≤ 140737488355328) :
    Calls Tryz.prog 26 #[.pointer (some ⟨WB, 0, none⟩), opv 1 a b c s t] w fun e w' => e = .returned (.bool true) ∧ (∃ N' ba' bc' flat', N' ≤ N + 1 ∧ Bk w' WB B gv gt N' ba' bc' flat') ∧ Fr w w' WB (Value.slice ba N bc).ownBlock := by
  refine step_codes w WB a b c s t (fun w' => (∃ N' ba' bc' flat', N' ≤ N + 1 ∧ Bk w' WB B gv gt N' ba' bc' flat') ∧ Fr w w' WB (Value.slice ba N bc).ownBlock) fun W hb => ?_
  refine (codes_any W WB B gv gt N ba bc flat (hbk.below hb) hN S vs (hg.keep (hb.mono (Nat.le_of_lt (ltOf hbk.blk)))) a b c s t h0 h1 hs).mono ?_
  rintro e w' ⟨rfl, hB, hfr⟩
  exact ⟨rfl, hB, hfr.after hb⟩
end Go.Proofs.YtlghcldiboecoaaGreatDoor
