/- The caller's step: what came out is kept, what was lent is looked at. -/
import Derived.Test.YtlghcldiboecoaaGreatDoorKCode
import Derived.Deep.RegionHeld3
set_option linter.unusedVariables false
namespace Go.Proofs.YtlghcldiboecoaaGreatDoor
open Go.RowKit

/-- What a step leaves as it was. -/
structure Fr (w w' : World) (WB : Nat) (row : Option Nat) : Prop where
  os : w'.os = w.os
  tape : w'.tape = w.tape
  output : w'.output = w.output
  size : w.heap.size ≤ w'.heap.size
  block : ∀ b, b < w.heap.size → b ≠ WB → row ≠ some b → w'.heap[b]? = w.heap[b]?

theorem Fr.of_below {w w' : World} {WB : Nat} {row : Option Nat} (h : Below w.heap.size w w') : Fr w w' WB row := ⟨h.os, h.tape, h.output, h.size, fun b hb _ _ => h.block b hb⟩

theorem keep_step {w w4 w7 : World} {WB B BB base N bc C k : Nat} {gv gt av' lv : Value} {ba : Option Addr} {flat xs : List Value} {S : Nat → Prop} {L1 : List Loan} (hbk : Bk w WB B gv gt N ba bc flat) (hN : N ≤ 1000000000) (hlow : Below w.heap.size w w4) (hlp : Lp w4 BB base S av' L1) (hBB : w.heap.size ≤ BB) (hS : ∀ b, S b → b < WB)
    (hcnt : L1.length ≤ 4000000) (hb : Below w4.heap.size w4 w7) (hC : w4.heap.size ≤ C) (hC7 : C ≤ w7.heap.size) (hown : w7.ownsRow C 5 1 lv k xs) (hk : k ≤ 1500) :
    Calls Tryz.prog 85 #[.pointer (some ⟨WB, 4, none⟩), lv] w7 fun e w8 => e = .returned (.tuple #[]) ∧ Calls Tryz.prog 86 #[.pointer (some ⟨BB, 0, none⟩)] w8 fun e w9 => e = .returned (.bool true) ∧ (∃ ba' bc' flat', Bk w9 WB B gv gt (N + 1) ba' bc' flat') ∧ Fr w w9 WB (Value.slice ba N bc).ownBlock := by
  have hl7 : Below w.heap.size w w7 := hlow.trans (hb.mono hlow.size)
  have hbk7 := hbk.below hl7
  have hWB := ltOf hbk.blk
  have hlt := hbk.lt
  have hle := hbk.le
  have hs4 := hlow.size
  have hpl := hlp.lt
  have hrw : ∀ g, (Value.slice ba N bc).ownBlock = some g → B ≤ g ∧ g < w.heap.size := fun g hg => hbk.row.lt g hg
  obtain ⟨ga, gn, gc, hgv⟩ := hbk.gsl
  refine (keepBytes_any w7 WB 4 _ 73 ba N bc hbk7.blk ⟨ga, gn, gc, by rw [← hgv]; rfl⟩ rfl B flat hbk7.row hbk.nil (fun h0 => ?_) hbk.rowWB C (by omega) (fun g hg => by have := (hrw g hg).2; omega) (by omega) hC7 lv k xs hk hN hown).mono ?_
  · have := (hbk.ent 0 h0).slice
    simpa using this
  · rintro e w8 ⟨rfl, ba', bc', l, x, y, z, hblk, hrow, hmk, hown', ⟨hos, htape, hout, hsz⟩, hsame⟩
    refine ⟨rfl, ?_⟩
    have hs48 : ∀ i, i < w4.heap.size → ¬ (i = WB ∨ (Value.slice ba N bc).ownBlock = some i) → w8.heap[i]? = w4.heap[i]? := fun i hi hn => (hsame i (by omega) (fun e => hn (.inl e)) (fun e => hn (.inr e))).trans (hb.block i hi)
    have hbs := hb.size
    have hlp8 : Lp w8 BB base S av' L1 := by
      refine hlp.keep (fun i => i = WB ∨ (Value.slice ba N bc).ownBlock = some i) (by omega) hs48 ?_ (fun g hg => ?_) (fun L hL => ?_) (fun b hb' => ?_)
      · rintro (e | e)
        · omega
        · have := (hrw _ e).2; omega
      · have := (hlp.row.lt g hg).1
        rintro (e | e)
        · omega
        · have := (hrw _ e).2; omega
      · have := hlp.loanBase hL
        rintro (e | e)
        · omega
        · have := (hrw _ e).2; omega
      · have := hS b hb'
        rintro (e | e)
        · omega
        · have := (hrw _ e).1; omega
    have hbk8 : Bk w8 WB B gv gt (N + 1) ba' bc' (flat ++ [l, x, y, z, .int .i64 N]) := by
      refine hbk.add ?_ hrow hmk (by have := hl7.size; omega) (fun i hi h1 h2 => (hsame i (by omega) h1 h2).trans (hl7.block i hi))
      rw [hblk]
      rfl
    refine (loans_whole w8 BB base S av' L1 hlp8 hlp.len hcnt).mono ?_
    rintro e w9 ⟨rfl, kk, ii, hmd⟩
    refine ⟨rfl, ⟨ba', bc', _, hbk8.loans hlp8 hmd⟩, hmd.os.trans (hos.trans hl7.os), hmd.tape.trans (htape.trans hl7.tape), hmd.output.trans (hout.trans hl7.output), by have := hmd.size; have := hl7.size; omega, fun i hi h1 h2 => ?_⟩
    refine (hmd.other i (by have := hl7.size; omega) (fun L hL => by have := hlp8.loanBase hL; omega)).trans ((hsame i (by omega) h1 h2).trans (hl7.block i hi))
end Go.Proofs.YtlghcldiboecoaaGreatDoor

/- The caller's step: Encode. -/
set_option linter.unusedVariables false
namespace Go.Proofs.YtlghcldiboecoaaGreatDoor
open Go.RowKit

theorem eres2 {w w' : World} {e : Ending} {r : Except Nat (List UInt8)} (h : eRes w w' e r) :
    ∃ (ov : Value) (code : Nat) (bs : List UInt8), e = .returned (.tuple #[ov, .int .i64 code]) ∧ w'.ownsRow w.heap.size 5 1 ov bs.length (bcells bs) ∧ ((r = .error code ∧ bs = [] ∧ ov = .slice none 0 0) ∨ (r = .ok bs ∧ code = 0)) := by
  cases r with
  | error c => exact ⟨_, c, [], h, World.ownsRow_nil _ _ _ _, .inl ⟨rfl, rfl, rfl⟩⟩
  | ok b =>
    obtain ⟨ov, he, ho⟩ := h
    exact ⟨ov, 0, b, he, ho, .inr ⟨rfl, rfl⟩⟩

theorem encode_code {s : List UInt8} {v : Orch.V} {c : Nat} (h : Orch.encode validB s v = .error c) : c ≤ 2 := by
  unfold Orch.encode at h
  split at h
  · cases h; omega
  · split at h
    · cases h; omega
    · cases h

theorem after82 {W5 w6 : World} {VB OB : Nat} {bx ox : Array Value} {t1 t2 : TypeId} (h1 : W5.heap[VB]? = some (.cells bx t1)) (h2 : W5.heap[OB]? = some (.cells ox t2)) (hb : Below W5.heap.size W5 w6) : Hid (w6.heap[VB]? = some (.cells bx t1)) ∧ Hid (w6.heap[OB]? = some (.cells ox t2)) :=
  ⟨(hb.block _ (ltOf h1)).trans h1, (hb.block _ (ltOf h2)).trans h2⟩

/-- What Encode told. -/
def Told (r : Except Nat (List UInt8)) (ov : Value) (code : Nat) (bs : List UInt8) : Prop := (r = .error code ∧ bs = [] ∧ ov = .slice none 0 0) ∨ (r = .ok bs ∧ code = 0)

theorem Told.same {r : Except Nat (List UInt8)} {ov ov' : Value} {c c' : Nat} {bs bs' : List UInt8} (h : Told r ov c bs) (h' : Told r ov' c' bs') : c' = c ∧ bs' = bs := by
  rcases h with ⟨h1, h2, _⟩ | ⟨h1, h2⟩ <;> rcases h' with ⟨k1, k2, _⟩ | ⟨k1, k2⟩
  · rw [h1] at k1; cases k1; exact ⟨rfl, by rw [h2, k2]⟩
  · rw [h1] at k1; cases k1
  · rw [h1] at k1; cases k1
  · rw [h1] at k1; cases k1; exact ⟨by rw [h2, k2], rfl⟩

set_option maxRecDepth 8000 in
set_option maxHeartbeats 8000000 in
theorem codes_enc (w : World) (WB B : Nat) (gt : Value) (N : Nat) (ba : Option Addr) (bc : Nat) (flat : List Value) (a b c : Int) (s t : ByteArray) (gl o n vc : Nat) (hn : 0 < n) (hvc : n ≤ vc) (h0 : -9223372036854775808 ≤ a) (h1 : a ≤ 9223372036854775807) (hn' : n ≤ 9223372036854775807)
    (hbk : Bk w WB B (.slice (some ⟨gl, o, none⟩) n vc) gt N ba bc flat) (hN : N ≤ 1000000000) (hTabs : Lib.Utf8Tabs 6 7 w) (hTab : Table w) (hWB : gTop ≤ WB) (hs : s.size ≤ 140737488355328)
    (S : Nat → Prop) (hS : ∀ b, S b → b < WB) (v : Orch.V) (hin : InV v) (hcnt : cntV v ≤ 2000000) (xa : Option Addr) (xm xc : Nat) (hws : WsAt w S v.l (.slice xa xm xc)) (hgl : gl < w.heap.size)
    (e0 : w.cell? ⟨gl, o + pk a n * 3, none⟩ = some (.int .i64 v.n)) (e1 : w.cell? ⟨gl, o + pk a n * 3 + 1, none⟩ = some (.string v.s)) (e2 : w.cell? ⟨gl, o + pk a n * 3 + 2, none⟩ = some (.slice xa xm xc)) :
    Calls Tryz.prog 52 #[.pointer (some ⟨WB, 0, none⟩), opv 1 a b c s t] w fun e w' => e = .returned (.bool true) ∧ (∃ ba' bc' flat', Bk w' WB B (.slice (some ⟨gl, o, none⟩) n vc) gt (N + 1) ba' bc' flat') ∧ Fr w w' WB (Value.slice ba N bc).ownBlock := by
  have hzn := pk_lt a hn
  have HPK := hid (fun W => pick_is W a n h0 h1 hn hn')
  generalize pk a n = z at *
  have hbl := below1 w (.cells #[.int .i64 1, .int .i64 a, .int .i64 b, .int .i64 c, .string s, .string t] 76)
  have hob := heap_alloc_new w (.cells #[.int .i64 1, .int .i64 a, .int .i64 b, .int .i64 c, .string s, .string t] 76)
  have hs1 : (w.alloc (.cells #[.int .i64 1, .int .i64 a, .int .i64 b, .int .i64 c, .string s, .string t] 76)).heap.size = w.heap.size + 1 := by simp
  have g0 := cellOf (j := 0) ((hbl.block WB (ltOf hbk.blk)).trans hbk.blk) rfl
  have o0 := cellOf (j := 0) hob rfl
  have o1 := cellOf (j := 1) hob rfl
  have f0 := (hbl.cell (p := ⟨gl, o + z * 3, none⟩) hgl).trans e0
  have f1 := (hbl.cell (p := ⟨gl, o + z * 3 + 1, none⟩) hgl).trans e1
  have f2 := (hbl.cell (p := ⟨gl, o + z * 3 + 2, none⟩) hgl).trans e2
  have hnz : (n : Int) > 0 := by omega
  have hnd : decide ((n : Int) > 0) = true := decide_eq_true hnz
  have HBK := hid hbk
  have HBL := hid hbl
  have HOB := hid hob
  have HS1 := hid hs1
  have HIN := hid hin
  have HWS := hid hws
  have HTA := hid hTabs
  have HTB := hid hTab
  clear hbk hbl hob hs1 e0 e1 e2 hin hws hTabs hTab
  go_enter Tryz.func52, Tryz.ntmps52
  go_wp2
  clear o0
  generalize hW1 : w.alloc (.cells #[.int .i64 1, .int .i64 a, .int .i64 b, .int .i64 c, .string s, .string t] 76) = W1 at *
  clear hW1
  have n0 := World.new_ne W1 _ g0
  have n1 := World.new_ne W1 _ o1
  have n2 := World.new_ne W1 _ f0
  refine wp_ends ?_
  apply Exists.intro
  apply Exists.intro
  refine ⟨?_, ?_⟩
  · go_region_held3 (fun W => W.cell? ⟨WB, 0, none⟩ = some (.slice (some ⟨gl, o, none⟩) n vc) ∧ W.cell? ⟨w.heap.size, 1, none⟩ = some (.int .i64 a) ∧ W.cell? ⟨gl, o + z * 3, none⟩ = some (.int .i64 v.n) ∧ W.cell? ⟨gl, o + z * 3 + 1, none⟩ = some (.string v.s) ∧ W.cell? ⟨gl, o + z * 3 + 2, none⟩ = some (.slice xa xm xc)) (go_keep) (first
      | (go_at_call 13; refine (HPK.out _).mono ?_; rintro e w1 ⟨rfl, hw1⟩; have hw2 := hw1.symm; clear hw1; subst hw2))
    all_goals exact ⟨rfl, rfl⟩
  clear n0 n1 n2 g0 o1 f0 f1 f2 HPK hnz hnd
  have HV2 := hid (heap_alloc_new W1 (.cells #[.int .i64 v.n, .string v.s, .slice xa xm xc] 113))
  have HB2 : Hid (Below W1.heap.size W1 (W1.alloc (.cells #[.int .i64 v.n, .string v.s, .slice xa xm xc] 113)).drew) := (below1 W1 _).drew
  have HS2 : Hid ((W1.alloc (.cells #[.int .i64 v.n, .string v.s, .slice xa xm xc] 113)).drew.heap.size = w.heap.size + 2) := by
    show (W1.alloc _).heap.size = _
    simp
    exact HS1.out
  have HVB : Hid ((W1.alloc (.cells #[.int .i64 v.n, .string v.s, .slice xa xm xc] 113)).drew.heap[W1.heap.size]? = some (.cells #[.int .i64 v.n, .string v.s, .slice xa xm xc] 113)) := HV2.out
  clear HV2
  have HOB2 : Hid ((W1.alloc (.cells #[.int .i64 v.n, .string v.s, .slice xa xm xc] 113)).drew.heap[w.heap.size]? = some (.cells #[.int .i64 1, .int .i64 a, .int .i64 b, .int .i64 c, .string s, .string t] 76)) := (HB2.out.block _ (ltOf HOB.out)).trans HOB.out
  have HLO2 : Hid (Below w.heap.size w (W1.alloc (.cells #[.int .i64 v.n, .string v.s, .slice xa xm xc] 113)).drew) := HBL.out.trans (HB2.out.mono HBL.out.size)
  clear HOB HBL HB2
  generalize (W1.alloc (.cells #[.int .i64 v.n, .string v.s, .slice xa xm xc] 113)).drew = W2 at *
  generalize W1.heap.size = VB at *
  -- the loans
  have HB3 := hid (below1 W2 (.cells #[.slice none 0 0] 157))
  have HS3 : Hid ((W2.alloc (.cells #[.slice none 0 0] 157)).heap.size = W2.heap.size + 1) := by show _ = _; simp
  have HVB3 : Hid ((W2.alloc (.cells #[.slice none 0 0] 157)).heap[VB]? = _) := (HB3.out.block _ (ltOf HVB.out)).trans HVB.out
  have HOB3 : Hid ((W2.alloc (.cells #[.slice none 0 0] 157)).heap[w.heap.size]? = _) := (HB3.out.block _ (ltOf HOB2.out)).trans HOB2.out
  have HLO3 : Hid (Below w.heap.size w (W2.alloc (.cells #[.slice none 0 0] 157))) := HLO2.out.trans (HB3.out.mono HLO2.out.size)
  have HLP3 : Hid (Lp (W2.alloc (.cells #[.slice none 0 0] 157)) W2.heap.size (W2.heap.size + 1) S (.slice none 0 0) []) := by
    have hl := HLO2.out.size
    have hw := ltOf HBK.out.blk
    refine ⟨heap_alloc_new _ _, World.ownsRow_nil _ _ _ _, by omega, by rw [HS3.out]; omega, (fun j L h => by simp at h), (fun i j L M h => by simp at h), fun b hb => by have := hS b hb; omega, fun L hL => by cases hL⟩
  have HC81 := hid (lv_any HWS.out (W2.alloc (.cells #[.slice none 0 0] 157)) W2.heap.size (W2.heap.size + 1) (.slice none 0 0) [] v.n v.s (fun b hb => HLO3.out.block b (by have := hS b hb; have := ltOf HBK.out.blk; omega)) HLP3.out (by have := cntV_eq v; simp; omega))
  have x0 := cellOf (j := 0) HVB3.out rfl
  have x1 := cellOf (j := 1) HVB3.out rfl
  have x2 := cellOf (j := 2) HVB3.out rfl
  have HVL : Hid (VB < W2.heap.size ∧ w.heap.size < W2.heap.size) := ⟨ltOf HVB.out, ltOf HOB2.out⟩
  clear HVB HOB2 HLO2 HB3 HLP3
  have HSP : Hid (∀ w4 av' L1 lv, LvRes (W2.alloc (.cells #[.slice none 0 0] 157)) w4 W2.heap.size (W2.heap.size + 1) S (.slice none 0 0) av' [] L1 v.l (.slice xa xm xc) lv → 
      (w4.heap[VB]? = some (.cells #[.int .i64 v.n, .string v.s, .slice xa xm xc] 113) ∧ w4.heap[w.heap.size]? = some (.cells #[.int .i64 1, .int .i64 a, .int .i64 b, .int .i64 c, .string s, .string t] 76)) ∧ Below w.heap.size w w4) := by
    intro w4 av' L1 lv h
    have hsame : ∀ b, b < W2.heap.size → w4.heap[b]? = (W2.alloc (.cells #[.slice none 0 0] 157)).heap[b]? := fun b hb => h.block b (by rw [HS3.out]; omega) (by omega) (by simp [Value.ownBlock])
    have hv := HVL.out
    refine ⟨⟨(hsame VB hv.1).trans HVB3.out, (hsame _ hv.2).trans HOB3.out⟩, ⟨h.os.trans HLO3.out.os, h.tape.trans HLO3.out.tape, h.output.trans HLO3.out.output, Nat.le_trans HLO3.out.size h.size, fun b hb => (hsame b (by omega)).trans (HLO3.out.block b hb)⟩⟩
  have HENC : Hid (∀ w4 av' L1 lv, LvRes (W2.alloc (.cells #[.slice none 0 0] 157)) w4 W2.heap.size (W2.heap.size + 1) S (.slice none 0 0) av' [] L1 v.l (.slice xa xm xc) lv → ∀ W, Below w4.heap.size w4 W → Calls Tryz.prog 82 #[.string s, vval v lv] W fun e w' => (∃ (ov : Value) (code : Nat) (bs : List UInt8), e = .returned (.tuple #[ov, .int .i64 code]) ∧ w'.ownsRow W.heap.size 5 1 ov bs.length (bcells bs) ∧ Told (Orch.encode validB s.data.toList v) ov code bs) ∧ Below W.heap.size W w') := by
    intro w4 av' L1 lv h W hb
    have hlow := (HSP.out w4 av' L1 lv h).2
    have hlw : Below w.heap.size w W := hlow.trans (hb.mono hlow.size)
    have hWBw := ltOf HBK.out.blk
    refine (encode_any utf W (utf.kept (by omega) hlw HTA.out) (HTB.out.below hlw (by unfold gTop at hWB; omega)) s v (fun b => ∃ L : Loan, L ∈ [] ++ L1 ∧ L.g = b) lv (h.vat.congr (fun b hb' => hb') (fun b hb' => ?_)) (fun b hb' => ?_)).mono fun e w' hh => ⟨eres2 hh.1, hh.2⟩
    · obtain ⟨L, hL, rfl⟩ := hb'
      exact hb.block _ (h.lp.loanLt hL)
    · obtain ⟨L, hL, rfl⟩ := hb'
      exact Nat.lt_of_lt_of_le (h.lp.loanLt hL) hb.size
  have HREF : Hid (∀ W, Below w.heap.size w W → Calls Tryz.prog 83 #[.string s, vv v.n v.s (.slice xa xm xc)] W fun e w' => (∃ (ov : Value) (code : Nat) (bs : List UInt8), e = .returned (.tuple #[ov, .int .i64 code]) ∧ w'.ownsRow W.heap.size 5 1 ov bs.length (bcells bs) ∧ Told (Orch.encode validB s.data.toList v) ov code bs) ∧ Below W.heap.size W w') := by
    intro W hb
    have hWBw := ltOf HBK.out.blk
    exact (refEncode_any W s hs v HIN.out (.slice xa xm xc) (HWS.out.congr (fun b hb' => by have := hS b hb'; have := hb.size; omega) (fun b hb' => hb.block b (by have := hS b hb'; omega)))).mono fun e w' hh => ⟨eres2 hh.1, hh.2⟩
  have HA81 : Hid (∀ w4 av' L1 ia im ic, LvRes (W2.alloc (.cells #[.slice none 0 0] 157)) w4 W2.heap.size (W2.heap.size + 1) S (.slice none 0 0) av' [] L1 v.l (.slice xa xm xc) (.slice ia im ic) → ∃ W5, w4.alloc (.cells #[.int .i64 v.n, .string v.s, .slice ia im ic] 113) = W5 ∧
      Hid (W5.heap[VB]? = some (.cells #[.int .i64 v.n, .string v.s, .slice xa xm xc] 113)) ∧ Hid (W5.heap[w.heap.size]? = some (.cells #[.int .i64 1, .int .i64 a, .int .i64 b, .int .i64 c, .string s, .string t] 76)) ∧
      W5.cell? ⟨w.heap.size, 4, none⟩ = some (.string s) ∧ W5.cell? ⟨w4.heap.size, 0, none⟩ = some (.int .i64 v.n) ∧ W5.cell? ⟨w4.heap.size, 1, none⟩ = some (.string v.s) ∧ W5.cell? ⟨w4.heap.size, 2, none⟩ = some (.slice ia im ic) ∧
      Hid (Below w4.heap.size w4 W5) ∧ Hid (Below w.heap.size w w4) ∧
      Hid (Calls Tryz.prog 82 #[.string s, vv v.n v.s (.slice ia im ic)] W5 fun e w' => (∃ (ov : Value) (code : Nat) (bs : List UInt8), e = .returned (.tuple #[ov, .int .i64 code]) ∧ w'.ownsRow W5.heap.size 5 1 ov bs.length (bcells bs) ∧ Told (Orch.encode validB s.data.toList v) ov code bs) ∧ Below W5.heap.size W5 w')) := by
    intro w4 av' L1 ia im ic h
    have hsp := HSP.out _ _ _ _ h
    have hbi := below1 w4 (.cells #[.int .i64 v.n, .string v.s, .slice ia im ic] 113)
    have hni := heap_alloc_new w4 (.cells #[.int .i64 v.n, .string v.s, .slice ia im ic] 113)
    have hob := (hbi.block _ (ltOf hsp.1.2)).trans hsp.1.2
    exact ⟨_, rfl, (hbi.block _ (ltOf hsp.1.1)).trans hsp.1.1, hob, cellOf hob rfl, cellOf hni rfl, cellOf hni rfl, cellOf hni rfl, hbi, hsp.2, HENC.out _ _ _ _ h _ hbi⟩
  clear HSP HENC
  go_wp2_with (first
    | (go_at_call 81; refine HC81.out.mono ?_; rintro e w4 ⟨ia, im, ic, av', L1, rfl, hres⟩; obtain ⟨W5, hW5, HVB5, HOB5, y4, i0, i1, i2, HB5, HLO4, HC82⟩ := HA81.out _ _ _ _ _ _ hres; have HRES := hid hres; clear hres)
    | (go_at_call 82; refine HC82.out.mono ?_; rintro e w6 ⟨⟨ov, code, bs, rfl, ho, hcs⟩, hb6⟩; obtain ⟨HVB6, HOB6⟩ := after82 HVB5.out HOB5.out hb6; have z4 := cellOf (j := 4) HOB6.out rfl; have v0 := cellOf (j := 0) HVB6.out rfl; have v1 := cellOf (j := 1) HVB6.out rfl; have v2 := cellOf (j := 2) HVB6.out rfl; have HOV := hid ho; have HCS := hid hcs; have HB6 := hid hb6; have HLO6 : Hid (Below w.heap.size w w6) := (HLO4.out.trans (HB5.out.mono HLO4.out.size)).trans (hb6.mono (Nat.le_trans HLO4.out.size HB5.out.size)); have HC83 := hid (HREF.out w6 HLO6.out); clear ho hcs hb6)
    | (go_at_call 83; refine HC83.out.mono ?_; rintro e w7 ⟨⟨mv, code', bs', rfl, hm, hcs'⟩, hb7⟩; obtain ⟨rfl, rfl⟩ := HCS.out.same hcs'; have HMV := hid hm; have HB7 := hid hb7; have HOV7 := hid (ownsRow_below HOV.out hb7); have hcl := conv_own HOV7.out; have hcm := conv_own HMV.out; obtain ⟨oa, oc, rfl⟩ := own_shape HOV7.out; obtain ⟨ma, mc, rfl⟩ := own_shape HMV.out; clear hm hb7 hcs'))
  have hcode : code' ≤ 2 := by
    rcases HCS.out with ⟨h, _⟩ | ⟨_, h⟩
    · exact encode_code h
    · omega
  have HBL : Hid (bs'.length ≤ 1000) := by
    show _ ≤ _
    rcases HCS.out with ⟨_, h, _⟩ | ⟨h, _⟩
    · rw [h]; simp
    · exact enc_len h
  have HSH : Hid ((oa = none ∧ bs'.length = 0 ∧ oc = 0) ∨ (∃ ga, oa = some ga ∧ code' = 0)) := by
    rcases HOV7.out.2 with ⟨h, h'⟩ | ⟨g, cap, cur, h, _⟩
    · simp only [Value.slice.injEq] at h
      exact .inl h
    · simp only [Value.slice.injEq] at h
      rcases HCS.out with ⟨_, _, h2⟩ | ⟨_, h2⟩
      · simp only [Value.slice.injEq] at h2
        rw [h.1] at h2
        cases h2.1
      · exact .inr ⟨_, h.1, h2⟩
  have HKS : Hid (Calls Tryz.prog 85 #[.pointer (some ⟨WB, 4, none⟩), .slice oa bs'.length oc] w7 fun e w8 => e = .returned (.tuple #[]) ∧ Calls Tryz.prog 86 #[.pointer (some ⟨W2.heap.size, 0, none⟩)] w8 fun e w9 => e = .returned (.bool true) ∧ (∃ ba' bc' flat', Bk w9 WB B (.slice (some ⟨gl, o, none⟩) n vc) gt (N + 1) ba' bc' flat') ∧ Fr w w9 WB (Value.slice ba N bc).ownBlock) := by
    have hc := HRES.out.cnt
    have hcv := cntV_eq v
    have hb46 : Below w4.heap.size w4 w6 := HB5.out.trans (HB6.out.mono HB5.out.size)
    have hb47 : Below w4.heap.size w4 w7 := hb46.trans (HB7.out.mono hb46.size)
    have hlp := HRES.out.lp
    rw [List.nil_append] at hlp
    exact keep_step HBK.out hN HLO4.out hlp (by have := HVL.out; omega) hS (by omega) hb47 HB5.out.size (Nat.le_trans HB6.out.size HB7.out.size) HOV7.out (by have := HBL.out; omega)
  rcases HSH.out with ⟨h1, h2, h3⟩ | ⟨ga, h1, h2⟩
  · subst h1 h3
    have hbs : bs' = [] := List.length_eq_zero_iff.1 h2
    subst hbs
    have hq := nil57 w7
    refine (num_any w7 code' (by omega) (by omega)).mono ?_
    rintro e w8 ⟨rfl, hw8⟩
    have hw9 := hw8.symm
    clear hw8
    subst hw9
    go_wp2_with (first
      | (go_at_call 85; refine HKS.out.mono ?_; rintro e w8 ⟨rfl, h86⟩; have H86 := hid h86; clear h86)
      | (go_at_call 86; refine H86.out.mono ?_; rintro e w9 ⟨rfl, hbk9, hb9⟩; have HBK9 := hid hbk9; have HB9 := hid hb9; clear hbk9 hb9))
    all_goals go_ret
    all_goals exact ⟨rfl, HBK9.out, HB9.out⟩
  · subst h1 h2
    have hq := some57 w7 ga bs'.length oc
    refine (num_any w7 (0 : Nat) (by omega) (by omega)).mono ?_
    rintro e w8 ⟨rfl, hw8⟩
    have hw9 := hw8.symm
    clear hw8
    subst hw9
    go_wp2_with (first
      | (go_at_call 85; refine HKS.out.mono ?_; rintro e w8 ⟨rfl, h86⟩; have H86 := hid h86; clear h86)
      | (go_at_call 86; refine H86.out.mono ?_; rintro e w9 ⟨rfl, hbk9, hb9⟩; have HBK9 := hid hbk9; have HB9 := hid hb9; clear hbk9 hb9))
    all_goals go_ret
    all_goals exact ⟨rfl, HBK9.out, HB9.out⟩
end Go.Proofs.YtlghcldiboecoaaGreatDoor

/- The caller's step. -/
set_option linter.unusedVariables false
namespace Go.Proofs.YtlghcldiboecoaaGreatDoor
open Go.RowKit

set_option maxRecDepth 8000 in
set_option maxHeartbeats 4000000 in
/-- There is no value: nothing is done. -/
theorem codes_none (w : World) (WB : Nat) (ga : Option Addr) (gc : Nat) (cs : List Value) (a b c : Int) (s t : ByteArray) (hb : w.heap[WB]? = some (.cells (.slice ga 0 gc :: cs).toArray 73)) :
    Calls Tryz.prog 52 #[.pointer (some ⟨WB, 0, none⟩), opv 1 a b c s t] w fun e w' => e = .returned (.bool true) ∧ Below w.heap.size w w' := by
  have hbl := below1 w (.cells #[.int .i64 1, .int .i64 a, .int .i64 b, .int .i64 c, .string s, .string t] 76)
  have hob := heap_alloc_new w (.cells #[.int .i64 1, .int .i64 a, .int .i64 b, .int .i64 c, .string s, .string t] 76)
  have g0 := cellOf (j := 0) ((hbl.block WB (ltOf hb)).trans hb) rfl
  have o0 := cellOf (j := 0) hob rfl
  have HBL := hid hbl
  clear hb hbl hob
  go_enter Tryz.func52, Tryz.ntmps52
  go_wp2
  all_goals go_ret
  all_goals exact ⟨rfl, HBL.out⟩

set_option maxRecDepth 8000 in
set_option maxHeartbeats 4000000 in
/-- A step of kind 1 is codes. -/
theorem step_codes (w : World) (WB : Nat) (a b c : Int) (s t : ByteArray) (R : World → Prop)
    (HC : Hid (∀ W, Below w.heap.size w W → Calls Tryz.prog 52 #[.pointer (some ⟨WB, 0, none⟩), opv 1 a b c s t] W fun e w' => e = .returned (.bool true) ∧ R w')) :
    Calls Tryz.prog 26 #[.pointer (some ⟨WB, 0, none⟩), opv 1 a b c s t] w fun e w' => e = .returned (.bool true) ∧ R w' := by
  have hbl := below1 w (.cells #[.int .i64 1, .int .i64 a, .int .i64 b, .int .i64 c, .string s, .string t] 76)
  have hob := heap_alloc_new w (.cells #[.int .i64 1, .int .i64 a, .int .i64 b, .int .i64 c, .string s, .string t] 76)
  have o0 := cellOf (j := 0) hob rfl
  have o1 := cellOf (j := 1) hob rfl
  have o2 := cellOf (j := 2) hob rfl
  have o3 := cellOf (j := 3) hob rfl
  have o4 := cellOf (j := 4) hob rfl
  have o5 := cellOf (j := 5) hob rfl
  have HBL := hid hbl
  clear hbl hob
  go_enter Tryz.func26, Tryz.ntmps26
  go_wp2_with (go_at_call 52; refine (HC.out _ HBL.out).mono ?_; rintro e w1 ⟨rfl, hr⟩; have HR := hid hr; clear hr)
  all_goals go_ret
  all_goals exact ⟨rfl, HR.out⟩
end Go.Proofs.YtlghcldiboecoaaGreatDoor

/- The caller's step, whatever the goods. -/
set_option linter.unusedVariables false
namespace Go.Proofs.YtlghcldiboecoaaGreatDoor
open Go.RowKit

theorem Fr.after {w W w' : World} {WB : Nat} {row : Option Nat} (h : Fr W w' WB row) (hb : Below w.heap.size w W) : Fr w w' WB row :=
  ⟨h.os.trans hb.os, h.tape.trans hb.tape, h.output.trans hb.output, Nat.le_trans hb.size h.size, fun b h1 h2 h3 => (h.block b (Nat.lt_of_lt_of_le h1 hb.size) h2 h3).trans (hb.block b h1)⟩

theorem Fr.below {w w' w2 : World} {WB : Nat} {row : Option Nat} (h : Fr w w' WB row) (hb : Below w'.heap.size w' w2) : Fr w w2 WB row :=
  ⟨hb.os.trans h.os, hb.tape.trans h.tape, hb.output.trans h.output, Nat.le_trans h.size hb.size, fun b h1 h2 h3 => (hb.block b (Nat.lt_of_lt_of_le h1 h.size)).trans (h.block b h1 h2 h3)⟩

/-- The goods that a script speaks of. -/
structure Goods (w : World) (WB : Nat) (S : Nat → Prop) (vs : List Orch.V) (gv : Value) : Prop where
  at' : WsAt w S vs gv
  low : ∀ b, S b → b < WB
  len : vs.length ≤ 4000000
  ok : ∀ v, v ∈ vs → InV v ∧ cntV v ≤ 2000000
  tabs : Lib.Utf8Tabs 6 7 w
  tab : Table w
  top : gTop ≤ WB

theorem Goods.keep {w w' : World} {WB : Nat} {S : Nat → Prop} {vs : List Orch.V} {gv : Value} (h : Goods w WB S vs gv) (hb : Below WB w w') : Goods w' WB S vs gv :=
  ⟨h.at'.congr (fun b hb' => hb') (fun b hb' => hb.block b (h.low b hb')), h.low, h.len, h.ok, utf.kept h.top hb h.tabs, h.tab.below hb (by have := h.top; unfold gTop at this; omega), h.top⟩

theorem codes_any (w : World) (WB B : Nat) (gv gt : Value) (N : Nat) (ba : Option Addr) (bc : Nat) (flat : List Value) (hbk : Bk w WB B gv gt N ba bc flat) (hN : N ≤ 1000000000) (S : Nat → Prop) (vs : List Orch.V) (hg : Goods w WB S vs gv)
    (a b c : Int) (s t : ByteArray) (h0 : -9223372036854775808 ≤ a) (h1 : a ≤ 9223372036854775807) (hs : s.size ≤ 140737488355328) :
    Calls Tryz.prog 52 #[.pointer (some ⟨WB, 0, none⟩), opv 1 a b c s t] w fun e w' => e = .returned (.bool true) ∧ (∃ N' ba' bc' flat', N' ≤ N + 1 ∧ Bk w' WB B gv gt N' ba' bc' flat') ∧ Fr w w' WB (Value.slice ba N bc).ownBlock := by
  have hnone : ∀ (ga : Option Addr) (gc : Nat), gv = .slice ga 0 gc → Calls Tryz.prog 52 #[.pointer (some ⟨WB, 0, none⟩), opv 1 a b c s t] w fun e w' => e = .returned (.bool true) ∧ (∃ N' ba' bc' flat', N' ≤ N + 1 ∧ Bk w' WB B gv gt N' ba' bc' flat') ∧ Fr w w' WB (Value.slice ba N bc).ownBlock := by
    intro ga gc hgv
    refine (codes_none w WB ga gc [gt, .slice none 0 0, .slice none 0 0, .slice ba N bc, .slice none 0 0, .slice none 0 0, .slice none 0 0] a b c s t (by rw [← hgv]; exact hbk.blk)).mono ?_
    rintro e w' ⟨rfl, hb⟩
    exact ⟨rfl, ⟨N, ba, bc, flat, by omega, hbk.below hb⟩, Fr.of_below hb⟩
  cases hws : hg.at' with
  | nil => exact hnone _ _ rfl
  | emp x y => exact hnone _ _ rfl
  | row ps g o cap hp0 hcap hS hc hr =>
    have hpl : 0 < ps.length := List.length_pos_iff.2 hp0
    have hlen := hg.len
    rw [List.length_map] at hlen
    have hz := pk_lt a hpl
    obtain ⟨xa, xc, hx⟩ := (hr ps[pk a ps.length] (List.getElem_mem hz)).shape
    have hws' := hr ps[pk a ps.length] (List.getElem_mem hz)
    have hok := hg.ok ps[pk a ps.length].1 (List.mem_map.2 ⟨_, List.getElem_mem hz, rfl⟩)
    have hcell : ∀ j u, (vcell ps[pk a ps.length])[j]? = some u → w.cell? ⟨g, o + pk a ps.length * 3 + j, none⟩ = some u := fun j u hj => by
      rw [Nat.add_assoc]
      refine hc _ u ?_
      have hj3 : j < 3 := by have := (List.getElem?_eq_some_iff.1 hj).1; rwa [vcell_len] at this
      rw [flat_get vcell 3 vcell_len ps _ j hj3, List.getElem?_eq_getElem hz, Option.bind_some]
      exact hj
    have hglow := hg.low g hS
    rw [hx] at hws'
    refine (codes_enc w WB B gt N ba bc flat a b c s t g o ps.length cap hpl hcap h0 h1 (by omega) hbk hN hg.tabs hg.tab hg.top hs S hg.low ps[pk a ps.length].1 hok.1 hok.2 xa _ xc hws' (by have := ltOf hbk.blk; omega) (hcell 0 _ rfl) (hcell 1 _ rfl) (by rw [← hx]; exact hcell 2 _ rfl)).mono ?_
    rintro e w' ⟨rfl, ⟨ba', bc', flat', hb'⟩, hfr⟩
    exact ⟨rfl, ⟨N + 1, ba', bc', flat', Nat.le_refl _, hb'⟩, hfr⟩

theorem step_any (w : World) (WB B : Nat) (gv gt : Value) (N : Nat) (ba : Option Addr) (bc : Nat) (flat : List Value) (hbk : Bk w WB B gv gt N ba bc flat) (hN : N ≤ 1000000000) (S : Nat → Prop) (vs : List Orch.V) (hg : Goods w WB S vs gv)
    (a b c : Int) (s t : ByteArray) (h0 : -9223372036854775808 ≤ a) (h1 : a ≤ 9223372036854775807) (hs : s.size ≤ 140737488355328) :
    Calls Tryz.prog 26 #[.pointer (some ⟨WB, 0, none⟩), opv 1 a b c s t] w fun e w' => e = .returned (.bool true) ∧ (∃ N' ba' bc' flat', N' ≤ N + 1 ∧ Bk w' WB B gv gt N' ba' bc' flat') ∧ Fr w w' WB (Value.slice ba N bc).ownBlock := by
  refine step_codes w WB a b c s t (fun w' => (∃ N' ba' bc' flat', N' ≤ N + 1 ∧ Bk w' WB B gv gt N' ba' bc' flat') ∧ Fr w w' WB (Value.slice ba N bc).ownBlock) fun W hb => ?_
  refine (codes_any W WB B gv gt N ba bc flat (hbk.below hb) hN S vs (hg.keep (hb.mono (Nat.le_of_lt (ltOf hbk.blk)))) a b c s t h0 h1 hs).mono ?_
  rintro e w' ⟨rfl, hB, hfr⟩
  exact ⟨rfl, hB, hfr.after hb⟩
end Go.Proofs.YtlghcldiboecoaaGreatDoor
