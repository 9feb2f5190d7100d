/- The caller's step: what came out is kept, what was lent is looked at. -/
import Derived.Test.YtlghcldiboecoaaGreatDoorKCode
set_option linter.unusedVariables false
namespace Go.Proofs.YtlghcldiboecoaaGreatDoor
open Go.RowKit

/-- What a step leaves as it was. -/
structure Fr (w w' : World) (WB : Nat) (row : Option Nat) : Prop where
  os : w'.os = w.os
  tape : w'.tape = w.tape
  output : w'.output = w.output
  size : w.heap.size ≤ w'.heap.size
  block : ∀ b, b < w.heap.size → b ≠ WB → row ≠ some b → w'.heap[b]? = w.heap[b]?

theorem Fr.of_below {w w' : World} {WB : Nat} {row : Option Nat} (h : Below w.heap.size w w') : Fr w w' WB row := ⟨h.os, h.tape, h.output, h.size, fun b hb _ _ => h.block b hb⟩

theorem keep_step {w w4 w7 : World} {WB B BB base N bc C k : Nat} {gv gt av' lv : Value} {ba : Option Addr} {flat xs : List Value} {S : Nat → Prop} {L1 : List Loan} (hbk : Bk w WB B gv gt N ba bc flat) (hN : N ≤ 1000000000) (hlow : Below w.heap.size w w4) (hlp : Lp w4 BB base S av' L1) (hBB : w.heap.size ≤ BB) (hS : ∀ b, S b → b < WB)
    (hcnt : L1.length ≤ 4000000) (hb : Below w4.heap.size w4 w7) (hC : w4.heap.size ≤ C) (hC7 : C ≤ w7.heap.size) (hown : w7.ownsRow C 5 1 lv k xs) (hk : k ≤ 1500) :
    Calls Tryz.prog 85 #[.pointer (some ⟨WB, 4, none⟩), lv] w7 fun e w8 => e = .returned (.tuple #[]) ∧ Calls Tryz.prog 86 #[.pointer (some ⟨BB, 0, none⟩)] w8 fun e w9 => e = .returned (.bool true) ∧ (∃ ba' bc' flat', Bk w9 WB B gv gt (N + 1) ba' bc' flat') ∧ Fr w w9 WB (Value.slice ba N bc).ownBlock := by
  have hl7 : Below w.heap.size w w7 := hlow.trans (hb.mono hlow.size)
  have hbk7 := hbk.below hl7
  have hWB := ltOf hbk.blk
  have hlt := hbk.lt
  have hle := hbk.le
  have hs4 := hlow.size
  have hpl := hlp.lt
  have hrw : ∀ g, (Value.slice ba N bc).ownBlock = some g → B ≤ g ∧ g < w.heap.size := fun g hg => hbk.row.lt g hg
  obtain ⟨ga, gn, gc, hgv⟩ := hbk.gsl
  refine (keepBytes_any w7 WB 4 _ 73 ba N bc hbk7.blk ⟨ga, gn, gc, by rw [← hgv]; rfl⟩ rfl B flat hbk7.row hbk.nil (fun h0 => ?_) hbk.rowWB C (by omega) (fun g hg => by have := (hrw g hg).2; omega) (by omega) hC7 lv k xs hk hN hown).mono ?_
  · have := (hbk.ent 0 h0).slice
    simpa using this
  · rintro e w8 ⟨rfl, ba', bc', l, x, y, z, hblk, hrow, hmk, hown', ⟨hos, htape, hout, hsz⟩, hsame⟩
    refine ⟨rfl, ?_⟩
    have hs48 : ∀ i, i < w4.heap.size → ¬ (i = WB ∨ (Value.slice ba N bc).ownBlock = some i) → w8.heap[i]? = w4.heap[i]? := fun i hi hn => (hsame i (by omega) (fun e => hn (.inl e)) (fun e => hn (.inr e))).trans (hb.block i hi)
    have hbs := hb.size
    have hlp8 : Lp w8 BB base S av' L1 := by
      refine hlp.keep (fun i => i = WB ∨ (Value.slice ba N bc).ownBlock = some i) (by omega) hs48 ?_ (fun g hg => ?_) (fun L hL => ?_) (fun b hb' => ?_)
      · rintro (e | e)
        · omega
        · have := (hrw _ e).2; omega
      · have := (hlp.row.lt g hg).1
        rintro (e | e)
        · omega
        · have := (hrw _ e).2; omega
      · have := hlp.loanBase hL
        rintro (e | e)
        · omega
        · have := (hrw _ e).2; omega
      · have := hS b hb'
        rintro (e | e)
        · omega
        · have := (hrw _ e).1; omega
    have hbk8 : Bk w8 WB B gv gt (N + 1) ba' bc' (flat ++ [l, x, y, z, .int .i64 N]) := by
      refine hbk.add ?_ hrow hmk (by have := hl7.size; omega) (fun i hi h1 h2 => (hsame i (by omega) h1 h2).trans (hl7.block i hi))
      rw [hblk]
      rfl
    refine (loans_whole w8 BB base S av' L1 hlp8 hlp.len hcnt).mono ?_
    rintro e w9 ⟨rfl, kk, ii, hmd⟩
    refine ⟨rfl, ⟨ba', bc', _, hbk8.loans hlp8 hmd⟩, hmd.os.trans (hos.trans hl7.os), hmd.tape.trans (htape.trans hl7.tape), hmd.output.trans (hout.trans hl7.output), by have := hmd.size; have := hl7.size; omega, fun i hi h1 h2 => ?_⟩
    refine (hmd.other i (by have := hl7.size; omega) (fun L hL => by have := hlp8.loanBase hL; omega)).trans ((hsame i (by omega) h1 h2).trans (hl7.block i hi))
end Go.Proofs.YtlghcldiboecoaaGreatDoor
