/- Disks: one act: acted (16): the two disks answer alike. -/
import Derived.Test.YtlghcldiboecoaaGreatDoorQ09
import Derived.Test.YtlghcldiboecoaaGreatDoorDkQ
set_option linter.unusedVariables false
set_option linter.unusedSimpArgs false
namespace Go.Proofs.YtlghcldiboecoaaGreatDoor
open Go.RowKit

/-- What an act leaves. -/
def ActOut (w : World) (p : Pt) (n m : Nat) (w' : World) : Prop := ∃ p', PtAt w' p' ∧ Gp w w' p p' ∧ lim p'.A n m

/-- Other blocks stay through the program's call. -/
theorem loc_keep {W w1 : World} {p : Pt} {l' : Int} {A' : List Fl} (h : PtAt W p) (hd : Dgo 82 91 W w1 p.sb l' p.sa A') {i : Nat} {cs : Array Value} {t : TypeId} (hi : W.heap[i]? = some (.cells cs t)) (h1 : t ≠ 82) (h2 : 91 ≠ t) : w1.heap[i]? = some (.cells cs t) := by
  obtain ⟨sa', sc', hs, hg⟩ := hd
  exact (hg.same _ (ltOf hi) (ne_of_t hi h.s.blk h1) (h.s.own_ne hi h2)).trans hi

theorem at_some (A : List Fl) (s : ByteArray) : ∃ o, AtN A s o := by
  by_cases h : ∃ f, f ∈ A ∧ f.n = s
  · obtain ⟨f, h⟩ := h
    exact ⟨some f, h⟩
  · exact ⟨none, fun f hf e => h ⟨f, hf, e⟩⟩

theorem acted_app (w : World) (p : Pt) (on x : Int) (s t : ByteArray) (n m : Nat) (h : PtAt w p) (hl : lim p.A n m) (hn : n ≤ 1048576) (hm : m + t.size ≤ 1048576) :
    Calls Tryz.prog 16 #[.agg #[.pointer (some ⟨p.db, 0, none⟩), .pointer (some ⟨p.hb, 0, none⟩), .pointer (some ⟨p.rb, 0, none⟩)], .agg #[.int .i64 2, .int .i64 on, .int .i64 x, .string s, .string t]] w (fun e w' => e = .returned (.bool true) ∧ ActOut w p (n + 1) (m + t.size) w') := by
  have hb2 := two_below w (.cells #[.pointer (some ⟨p.db, 0, none⟩), .pointer (some ⟨p.hb, 0, none⟩), .pointer (some ⟨p.rb, 0, none⟩)] 40) (.cells #[.int .i64 2, .int .i64 on, .int .i64 x, .string s, .string t] 32)
  have h1 := two_first w (.cells #[.pointer (some ⟨p.db, 0, none⟩), .pointer (some ⟨p.hb, 0, none⟩), .pointer (some ⟨p.rb, 0, none⟩)] 40) (.cells #[.int .i64 2, .int .i64 on, .int .i64 x, .string s, .string t] 32)
  have h2 := two_second w (.cells #[.pointer (some ⟨p.db, 0, none⟩), .pointer (some ⟨p.hb, 0, none⟩), .pointer (some ⟨p.rb, 0, none⟩)] 40) (.cells #[.int .i64 2, .int .i64 on, .int .i64 x, .string s, .string t] 32)
  have hp := h.below hb2
  have hlB := hl.perm h.al.perm
  refine walk_app w p.db p.hb p.rb on x s t (decide (p.lf ≠ 0)) _ ?_
  refine (pappend_any _ p.db p.sb p.lf p.A p.sa p.sc s t hp.d hp.s h.l0 h.l1 (by have := hl.1; omega) (fun f hf => by have := hl.2 f hf; omega) (by omega)).mono ?_
  rintro e w1 ⟨rfl, A', hd, hA⟩
  refine ⟨rfl, loc_keep hp hd h1 (by decide) (by decide), loc_keep hp hd h2 (by decide) (by decide), ?_⟩
  refine (rappend_any w1 p.rb p.lf p.B p.ra p.rc s t (hp.mid hd) h.l0 h.l1 (by have := hlB.1; omega) (fun f hf => by have := hlB.2 f hf; omega) (by omega)).mono ?_
  rintro e w2 ⟨rfl, B', hr, hB⟩
  refine ⟨rfl, ?_⟩
  have hAB : Alike A' B' ∧ lim A' (n + 1) (m + t.size) := by
    rcases hA with ⟨h0, rfl⟩ | ⟨h0, hA⟩ <;> rcases hB with ⟨h0', rfl⟩ | ⟨h0', o, ho, hB⟩
    · exact ⟨h.al, hl.mono (by omega) (by omega)⟩
    · exact absurd h0 h0'
    · exact absurd h0' h0
    · exact ⟨h.al.app hA ho hB, hl.app hA⟩
  obtain ⟨p', k1, k2, k3⟩ := hp.fin hd hr hAB.1 (dec_lo h.l0) (dec_hi h.l1)
  exact ⟨p', k1, k2.up hb2, k3 ▸ hAB.2⟩

theorem acted_sync (w : World) (p : Pt) (on x : Int) (s t : ByteArray) (n m : Nat) (h : PtAt w p) (hl : lim p.A n m) (hn : n ≤ 1048576) (hm : m + t.size ≤ 1048576) :
    Calls Tryz.prog 16 #[.agg #[.pointer (some ⟨p.db, 0, none⟩), .pointer (some ⟨p.hb, 0, none⟩), .pointer (some ⟨p.rb, 0, none⟩)], .agg #[.int .i64 3, .int .i64 on, .int .i64 x, .string s, .string t]] w (fun e w' => e = .returned (.bool true) ∧ ActOut w p (n + 1) (m + t.size) w') := by
  have hb2 := two_below w (.cells #[.pointer (some ⟨p.db, 0, none⟩), .pointer (some ⟨p.hb, 0, none⟩), .pointer (some ⟨p.rb, 0, none⟩)] 40) (.cells #[.int .i64 3, .int .i64 on, .int .i64 x, .string s, .string t] 32)
  have h1 := two_first w (.cells #[.pointer (some ⟨p.db, 0, none⟩), .pointer (some ⟨p.hb, 0, none⟩), .pointer (some ⟨p.rb, 0, none⟩)] 40) (.cells #[.int .i64 3, .int .i64 on, .int .i64 x, .string s, .string t] 32)
  have h2 := two_second w (.cells #[.pointer (some ⟨p.db, 0, none⟩), .pointer (some ⟨p.hb, 0, none⟩), .pointer (some ⟨p.rb, 0, none⟩)] 40) (.cells #[.int .i64 3, .int .i64 on, .int .i64 x, .string s, .string t] 32)
  have hp := h.below hb2
  have hlB := hl.perm h.al.perm
  refine walk_sync w p.db p.hb p.rb on x s t (decide (p.lf ≠ 0)) _ ?_
  refine (psync_any _ p.db p.sb p.lf p.A p.sa p.sc s hp.d hp.s h.l0 h.l1 (by have := hl.1; omega)).mono ?_
  rintro e w1 ⟨rfl, A', hd, hA⟩
  refine ⟨rfl, loc_keep hp hd h1 (by decide) (by decide), loc_keep hp hd h2 (by decide) (by decide), ?_⟩
  refine (rsync_any w1 p.rb p.lf p.B p.ra p.rc s (hp.mid hd) h.l0 h.l1 (by have := hlB.1; omega)).mono ?_
  rintro e w2 ⟨rfl, B', hr, hB⟩
  refine ⟨rfl, ?_⟩
  have hAB : Alike A' B' ∧ lim A' (n + 1) (m + t.size) := by
    rcases hA with ⟨h0, rfl⟩ | ⟨h0, hA⟩ <;> rcases hB with ⟨h0', rfl⟩ | ⟨h0', o, ho, hB⟩
    · exact ⟨h.al, hl.mono (by omega) (by omega)⟩
    · exact absurd h0 h0'
    · exact absurd h0' h0
    · exact ⟨h.al.sync hA ho hB, (hl.sync hA).mono (by omega) (by omega)⟩
  obtain ⟨p', k1, k2, k3⟩ := hp.fin hd hr hAB.1 (dec_lo h.l0) (dec_hi h.l1)
  exact ⟨p', k1, k2.up hb2, k3 ▸ hAB.2⟩

theorem acted_ren (w : World) (p : Pt) (on x : Int) (s t : ByteArray) (n m : Nat) (h : PtAt w p) (hl : lim p.A n m) (hn : n ≤ 1048576) (hm : m + t.size ≤ 1048576) :
    Calls Tryz.prog 16 #[.agg #[.pointer (some ⟨p.db, 0, none⟩), .pointer (some ⟨p.hb, 0, none⟩), .pointer (some ⟨p.rb, 0, none⟩)], .agg #[.int .i64 4, .int .i64 on, .int .i64 x, .string s, .string t]] w (fun e w' => e = .returned (.bool true) ∧ ActOut w p (n + 1) (m + t.size) w') := by
  have hb2 := two_below w (.cells #[.pointer (some ⟨p.db, 0, none⟩), .pointer (some ⟨p.hb, 0, none⟩), .pointer (some ⟨p.rb, 0, none⟩)] 40) (.cells #[.int .i64 4, .int .i64 on, .int .i64 x, .string s, .string t] 32)
  have h1 := two_first w (.cells #[.pointer (some ⟨p.db, 0, none⟩), .pointer (some ⟨p.hb, 0, none⟩), .pointer (some ⟨p.rb, 0, none⟩)] 40) (.cells #[.int .i64 4, .int .i64 on, .int .i64 x, .string s, .string t] 32)
  have h2 := two_second w (.cells #[.pointer (some ⟨p.db, 0, none⟩), .pointer (some ⟨p.hb, 0, none⟩), .pointer (some ⟨p.rb, 0, none⟩)] 40) (.cells #[.int .i64 4, .int .i64 on, .int .i64 x, .string s, .string t] 32)
  have hp := h.below hb2
  have hlB := hl.perm h.al.perm
  refine walk_ren w p.db p.hb p.rb on x s t (decide (p.lf ≠ 0)) _ ?_
  refine (prename_any _ p.db p.sb p.lf p.A p.sa p.sc s t hp.d hp.s h.l0 h.l1 (by have := hl.1; omega)).mono ?_
  rintro e w1 ⟨rfl, A', hd, hA⟩
  refine ⟨rfl, loc_keep hp hd h1 (by decide) (by decide), loc_keep hp hd h2 (by decide) (by decide), ?_⟩
  refine (rrename_any w1 p.rb p.lf p.B p.ra p.rc s t (hp.mid hd) h.l0 h.l1 (by have := hlB.1; omega)).mono ?_
  rintro e w2 ⟨rfl, B', hr, hB⟩
  refine ⟨rfl, ?_⟩
  have hAB : Alike A' B' ∧ lim A' (n + 1) (m + t.size) := by
    rcases hA with ⟨h0, rfl⟩ | ⟨h0, hA⟩ <;> rcases hB with ⟨h0', rfl⟩ | ⟨h0', o, ho, hB⟩
    · exact ⟨h.al, hl.mono (by omega) (by omega)⟩
    · exact absurd h0 h0'
    · exact absurd h0' h0
    · exact ⟨h.al.ren hA ho hB, (hl.ren hA).mono (by omega) (by omega)⟩
  obtain ⟨p', k1, k2, k3⟩ := hp.fin hd hr hAB.1 (dec_lo h.l0) (dec_hi h.l1)
  exact ⟨p', k1, k2.up hb2, k3 ▸ hAB.2⟩

theorem acted_rem (w : World) (p : Pt) (on x : Int) (s t : ByteArray) (n m : Nat) (h : PtAt w p) (hl : lim p.A n m) (hn : n ≤ 1048576) (hm : m + t.size ≤ 1048576) :
    Calls Tryz.prog 16 #[.agg #[.pointer (some ⟨p.db, 0, none⟩), .pointer (some ⟨p.hb, 0, none⟩), .pointer (some ⟨p.rb, 0, none⟩)], .agg #[.int .i64 5, .int .i64 on, .int .i64 x, .string s, .string t]] w (fun e w' => e = .returned (.bool true) ∧ ActOut w p (n + 1) (m + t.size) w') := by
  have hb2 := two_below w (.cells #[.pointer (some ⟨p.db, 0, none⟩), .pointer (some ⟨p.hb, 0, none⟩), .pointer (some ⟨p.rb, 0, none⟩)] 40) (.cells #[.int .i64 5, .int .i64 on, .int .i64 x, .string s, .string t] 32)
  have h1 := two_first w (.cells #[.pointer (some ⟨p.db, 0, none⟩), .pointer (some ⟨p.hb, 0, none⟩), .pointer (some ⟨p.rb, 0, none⟩)] 40) (.cells #[.int .i64 5, .int .i64 on, .int .i64 x, .string s, .string t] 32)
  have h2 := two_second w (.cells #[.pointer (some ⟨p.db, 0, none⟩), .pointer (some ⟨p.hb, 0, none⟩), .pointer (some ⟨p.rb, 0, none⟩)] 40) (.cells #[.int .i64 5, .int .i64 on, .int .i64 x, .string s, .string t] 32)
  have hp := h.below hb2
  have hlB := hl.perm h.al.perm
  refine walk_rem w p.db p.hb p.rb on x s t (decide (p.lf ≠ 0)) _ ?_
  refine (premove_any _ p.db p.sb p.lf p.A p.sa p.sc s hp.d hp.s h.l0 h.l1 (by have := hl.1; omega)).mono ?_
  rintro e w1 ⟨rfl, hd⟩
  refine ⟨rfl, loc_keep hp hd h1 (by decide) (by decide), loc_keep hp hd h2 (by decide) (by decide), ?_⟩
  refine (rremove_any w1 p.rb p.lf p.B p.ra p.rc s (hp.mid hd) h.l0 h.l1 (by have := hlB.1; omega)).mono ?_
  rintro e w2 ⟨rfl, hr⟩
  refine ⟨rfl, ?_⟩
  have hAB : Alike (if p.lf = 0 then p.A else wo p.A s) (if p.lf = 0 then p.B else wo p.B s) ∧ lim (if p.lf = 0 then p.A else wo p.A s) (n + 1) (m + t.size) := by
    by_cases h0 : p.lf = 0
    · rw [if_pos h0, if_pos h0]
      exact ⟨h.al, hl.mono (by omega) (by omega)⟩
    · rw [if_neg h0, if_neg h0]
      exact ⟨h.al.wo s, (hl.wo s).mono (by omega) (by omega)⟩
  obtain ⟨p', k1, k2, k3⟩ := hp.fin hd hr hAB.1 (dec_lo h.l0) (dec_hi h.l1)
  exact ⟨p', k1, k2.up hb2, k3 ▸ hAB.2⟩

theorem acted_stop (w : World) (p : Pt) (on x : Int) (s t : ByteArray) (n m : Nat) (h : PtAt w p) (hl : lim p.A n m) (hn : n ≤ 1048576) (hm : m + t.size ≤ 1048576) (hx : x ≤ 9223372036854775807) :
    Calls Tryz.prog 16 #[.agg #[.pointer (some ⟨p.db, 0, none⟩), .pointer (some ⟨p.hb, 0, none⟩), .pointer (some ⟨p.rb, 0, none⟩)], .agg #[.int .i64 7, .int .i64 on, .int .i64 x, .string s, .string t]] w (fun e w' => e = .returned (.bool true) ∧ ActOut w p (n + 1) (m + t.size) w') := by
  have hb2 := two_below w (.cells #[.pointer (some ⟨p.db, 0, none⟩), .pointer (some ⟨p.hb, 0, none⟩), .pointer (some ⟨p.rb, 0, none⟩)] 40) (.cells #[.int .i64 7, .int .i64 on, .int .i64 x, .string s, .string t] 32)
  have h1 := two_first w (.cells #[.pointer (some ⟨p.db, 0, none⟩), .pointer (some ⟨p.hb, 0, none⟩), .pointer (some ⟨p.rb, 0, none⟩)] 40) (.cells #[.int .i64 7, .int .i64 on, .int .i64 x, .string s, .string t] 32)
  have h2 := two_second w (.cells #[.pointer (some ⟨p.db, 0, none⟩), .pointer (some ⟨p.hb, 0, none⟩), .pointer (some ⟨p.rb, 0, none⟩)] 40) (.cells #[.int .i64 7, .int .i64 on, .int .i64 x, .string s, .string t] 32)
  have hp := h.below hb2
  have hlB := hl.perm h.al.perm
  refine walk_stop w p.db p.hb p.rb on x s t _ ?_
  refine (pstop_any _ p.hb p.sb p.lf x _ hp.h hp.s.blk).mono ?_
  rintro e w1 ⟨rfl, hb1, hg1⟩
  have hd : Dgo 82 91 _ w1 p.sb _ p.sa p.A := .same (hp.s.lefts hb1 hg1 (by decide)) (Go3.grown hg1)
  refine ⟨rfl, loc_keep hp hd h1 (by decide) (by decide), loc_keep hp hd h2 (by decide) (by decide), ?_⟩
  have hm1 := hp.mid hd
  refine (rstop_any w1 p.rb p.lf x _ hm1.blk).mono ?_
  rintro e w2 ⟨rfl, hb3, hg3⟩
  have hr : Dgo 89 93 w1 w2 p.rb _ p.ra p.B := .same (hm1.lefts hb3 hg3 (by decide)) (Go3.grown hg3)
  refine ⟨rfl, ?_⟩
  have hAB : Alike p.A p.B ∧ lim p.A (n + 1) (m + t.size) := ⟨h.al, hl.mono (by omega) (by omega)⟩
  have hlo : -1 ≤ (if p.lf = 0 then 0 else if x < 0 then -1 else x) := by split <;> (try split) <;> omega
  have hhi : (if p.lf = 0 then 0 else if x < 0 then -1 else x) ≤ 9223372036854775807 := by split <;> (try split) <;> omega
  obtain ⟨p', k1, k2, k3⟩ := hp.fin hd hr hAB.1 hlo hhi
  exact ⟨p', k1, k2.up hb2, k3 ▸ hAB.2⟩

theorem acted_look (w : World) (p : Pt) (on x : Int) (s t : ByteArray) (n m : Nat) (h : PtAt w p) (hl : lim p.A n m) (hn : n ≤ 1048576) (hm : m + t.size ≤ 1048576) :
    Calls Tryz.prog 16 #[.agg #[.pointer (some ⟨p.db, 0, none⟩), .pointer (some ⟨p.hb, 0, none⟩), .pointer (some ⟨p.rb, 0, none⟩)], .agg #[.int .i64 6, .int .i64 on, .int .i64 x, .string s, .string t]] w (fun e w' => e = .returned (.bool true) ∧ ActOut w p (n + 1) (m + t.size) w') := by
  have hb2 := two_below w (.cells #[.pointer (some ⟨p.db, 0, none⟩), .pointer (some ⟨p.hb, 0, none⟩), .pointer (some ⟨p.rb, 0, none⟩)] 40) (.cells #[.int .i64 6, .int .i64 on, .int .i64 x, .string s, .string t] 32)
  have h1 := two_first w (.cells #[.pointer (some ⟨p.db, 0, none⟩), .pointer (some ⟨p.hb, 0, none⟩), .pointer (some ⟨p.rb, 0, none⟩)] 40) (.cells #[.int .i64 6, .int .i64 on, .int .i64 x, .string s, .string t] 32)
  have h2 := two_second w (.cells #[.pointer (some ⟨p.db, 0, none⟩), .pointer (some ⟨p.hb, 0, none⟩), .pointer (some ⟨p.rb, 0, none⟩)] 40) (.cells #[.int .i64 6, .int .i64 on, .int .i64 x, .string s, .string t] 32)
  have hp := h.below hb2
  have hlB := hl.perm h.al.perm
  obtain ⟨o, ho⟩ := at_some p.A s
  refine walk_look w p.db p.hb p.rb on x s t (o.getD fl0).n (o.getD fl0).d (o.getD fl0).s p.lf o.isSome _ _ ?_ ?_ ?_ ?_ hp.r.blk
  · refine (pread_any _ p.db p.sb p.lf p.A p.sa p.sc s hp.d hp.s (by have := hl.1; omega)).mono ?_
    rintro e w1 ⟨rfl, o', ho', rfl⟩
    rw [AtN.eq h.al.nd ho' ho]
    exact ⟨rfl, rfl⟩
  · refine (phas_any _ p.db p.sb p.lf p.A p.sa p.sc s hp.d hp.s (by have := hl.1; omega)).mono ?_
    rintro e w1 ⟨rfl, o', ho', rfl⟩
    rw [AtN.eq h.al.nd ho' ho]
    exact ⟨rfl, rfl⟩
  · exact pstopped_any _ p.db p.sb p.lf _ hp.d hp.s.blk
  · refine (rfile_any _ p.rb p.lf p.B p.ra p.rc s hp.r (by have := hlB.1; omega)).mono ?_
    rintro e w1 ⟨o', rfl, ho', hb1⟩
    rw [h.al.at ho ho']
    have hb3 := hb2.trans ((hb1.trans ((below1 w1 (.cells #[.string (o'.getD fl0).n, .string (o'.getD fl0).d, .int .i64 (o'.getD fl0).s] 93)).mono hb1.size)).mono hb2.size)
    exact ⟨rfl, hb1, p, h.below hb3, Gp.below hb3, hl.mono (by omega) (by omega)⟩

theorem acted_any (w : World) (p : Pt) (k on x : Int) (s t : ByteArray) (n m : Nat) (h : PtAt w p) (hl : lim p.A n m) (hn : n ≤ 1048576) (hm : m + t.size ≤ 1048576) (hx : x ≤ 9223372036854775807) :
    Calls Tryz.prog 16 #[.agg #[.pointer (some ⟨p.db, 0, none⟩), .pointer (some ⟨p.hb, 0, none⟩), .pointer (some ⟨p.rb, 0, none⟩)], .agg #[.int .i64 k, .int .i64 on, .int .i64 x, .string s, .string t]] w (fun e w' => e = .returned (.bool true) ∧ ActOut w p (n + 1) (m + t.size) w') := by
  by_cases h2 : k = 2
  · subst h2; exact acted_app w p on x s t n m h hl hn hm
  by_cases h3 : k = 3
  · subst h3; exact acted_sync w p on x s t n m h hl hn hm
  by_cases h4 : k = 4
  · subst h4; exact acted_ren w p on x s t n m h hl hn hm
  by_cases h5 : k = 5
  · subst h5; exact acted_rem w p on x s t n m h hl hn hm
  by_cases h6 : k = 6
  · subst h6; exact acted_look w p on x s t n m h hl hn hm
  by_cases h7 : k = 7
  · subst h7; exact acted_stop w p on x s t n m h hl hn hm hx
  refine (walk_none w p.db p.hb p.rb k on x s t h2 h3 h4 h5 h6 h7).mono ?_
  rintro e w' ⟨rfl, rfl⟩
  have hb2 := two_below w (.cells #[.pointer (some ⟨p.db, 0, none⟩), .pointer (some ⟨p.hb, 0, none⟩), .pointer (some ⟨p.rb, 0, none⟩)] 40) (.cells #[.int .i64 k, .int .i64 on, .int .i64 x, .string s, .string t] 32)
  exact ⟨rfl, p, h.below hb2, Gp.below hb2, hl.mono (by omega) (by omega)⟩

end Go.Proofs.YtlghcldiboecoaaGreatDoor

/- Disks: the plates: each with blocks of its own. -/
namespace Go.Proofs.YtlghcldiboecoaaGreatDoor
open Go.RowKit

theorem two_below' (w : World) (a b : Obj) : Below w.heap.size w ((w.alloc a).alloc b) := (below1 w a).trans ((below1 _ b).mono (by simp))
theorem two_first' (w : World) (a b : Obj) : ((w.alloc a).alloc b).heap[w.heap.size]? = some a := ((below1 (w.alloc a) b).block _ (by simp)).trans (heap_alloc_new w a)

/-- A plate as the list holds it. -/
def pcells (PS : List Pt) : List Value := PS.flatMap fun p => [.pointer (some ⟨p.db, 0, none⟩), .pointer (some ⟨p.hb, 0, none⟩), .pointer (some ⟨p.rb, 0, none⟩)]

theorem pcells_get {L : List Pt} {i : Nat} {p : Pt} (h : L[i]? = some p) : (pcells L)[i * 3]? = some (.pointer (some ⟨p.db, 0, none⟩)) ∧ (pcells L)[i * 3 + 1]? = some (.pointer (some ⟨p.hb, 0, none⟩)) ∧ (pcells L)[i * 3 + 2]? = some (.pointer (some ⟨p.rb, 0, none⟩)) := by
  induction L generalizing i with
  | nil => simp at h
  | cons x l ih =>
    cases i with
    | zero => simp at h; subst h; simp [pcells]
    | succ i =>
      have := ih (i := i) (by simpa using h)
      rw [show (i + 1) * 3 = i * 3 + 3 by omega]
      simpa [pcells] using this

theorem pcells_add (L : List Pt) (p : Pt) : pcells (L ++ [p]) = pcells L ++ [.pointer (some ⟨p.db, 0, none⟩), .pointer (some ⟨p.hb, 0, none⟩), .pointer (some ⟨p.rb, 0, none⟩)] := by simp [pcells]
theorem pcells_set {L : List Pt} {i : Nat} {p q : Pt} (h : L[i]? = some p) (e : q.db = p.db ∧ q.hb = p.hb ∧ q.sb = p.sb ∧ q.rb = p.rb) : pcells (L.set i q) = pcells L := by
  induction L generalizing i with
  | nil => rfl
  | cons x l ih =>
    cases i with
    | zero => simp at h; subst h; simp [pcells, e.1, e.2.1, e.2.2.2]
    | succ i =>
      have := ih (i := i) (by simpa using h)
      simp only [pcells, List.set_cons_succ, List.flatMap_cons] at *
      rw [this]

theorem pcells3 {w : World} {L : List Pt} {g i : Nat} {p : Pt} {base n c : Nat} (h : w.ownsRow base 40 3 (.slice (some ⟨g, 0, none⟩) n c) n (pcells L)) (hf : L[i]? = some p) :
    w.cell? ⟨g, i * 3, none⟩ = some (.pointer (some ⟨p.db, 0, none⟩)) ∧ w.cell? ⟨g, i * 3 + 1, none⟩ = some (.pointer (some ⟨p.hb, 0, none⟩)) ∧ w.cell? ⟨g, i * 3 + 2, none⟩ = some (.pointer (some ⟨p.rb, 0, none⟩)) := by
  obtain ⟨h0, h1, h2⟩ := pcells_get hf
  have a0 := h.cells (g := g) rfl _ _ h0
  have a1 := h.cells (g := g) rfl _ _ h1
  have a2 := h.cells (g := g) rfl _ _ h2
  rw [Addr.add_lit, Nat.zero_add] at a0 a1 a2
  exact ⟨a0, a1, a2⟩

/-- What a plate's calls write lies from here on. -/
structure LoP (N : Nat) (p : Pt) : Prop where
  sb : N ≤ p.sb
  rb : N ≤ p.rb
  so : ∀ g, ownA p.sa = some g → N ≤ g
  ro : ∀ g, ownA p.ra = some g → N ≤ g

/-- And below that. -/
structure HiP (N : Nat) (p : Pt) : Prop where
  sb : p.sb < N
  rb : p.rb < N
  so : ∀ g, ownA p.sa = some g → g < N
  ro : ∀ g, ownA p.ra = some g → g < N

/-- Two plates. -/
structure Apart (p q : Pt) : Prop where
  sb : p.sb ≠ q.sb
  rb : p.rb ≠ q.rb
  so : ∀ g, ownA p.sa = some g → ownA q.sa ≠ some g
  ro : ∀ g, ownA p.ra = some g → ownA q.ra ≠ some g

theorem Apart.symm {p q : Pt} (h : Apart p q) : Apart q p := ⟨h.sb.symm, h.rb.symm, fun g e c => h.so g c e, fun g e c => h.ro g c e⟩
theorem HiP.apart {N : Nat} {p q : Pt} (h : HiP N p) (k : LoP N q) : Apart p q := ⟨by have := h.sb; have := k.sb; omega, by have := h.rb; have := k.rb; omega, fun g e c => by have := h.so g e; have := k.so g c; omega, fun g e c => by have := h.ro g e; have := k.ro g c; omega⟩
theorem LoP.mono {N M : Nat} {p : Pt} (h : LoP N p) (k : M ≤ N) : LoP M p := ⟨Nat.le_trans k h.sb, Nat.le_trans k h.rb, fun g e => Nat.le_trans k (h.so g e), fun g e => Nat.le_trans k (h.ro g e)⟩

variable {w w' w1 w5 : World} {p p' q : Pt}
theorem PtAt.hi (h : PtAt w p) : HiP w.heap.size p := ⟨ltOf h.s.blk, ltOf h.r.blk, fun g e => by obtain ⟨cs, hc⟩ := h.s.own_t e; exact ltOf hc, fun g e => by obtain ⟨cs, hc⟩ := h.r.own_t e; exact ltOf hc⟩
/-- Where its blocks stand, a plate stands. -/
theorem PtAt.keep (h : PtAt w p) (hs : ∀ i cs t, w.heap[i]? = some (.cells cs t) → t = 84 ∨ t = 86 ∨ (t = 82 ∧ i = p.sb) ∨ (t = 89 ∧ i = p.rb) ∨ (t = 91 ∧ ownA p.sa = some i) ∨ (t = 93 ∧ ownA p.ra = some i) → w'.heap[i]? = w.heap[i]?) : PtAt w' p :=
  ⟨(hs _ _ _ h.d (.inl rfl)).trans h.d, (hs _ _ _ h.h (.inr (.inl rfl))).trans h.h,
   ⟨(hs _ _ _ h.s.blk (.inr (.inr (.inl ⟨rfl, rfl⟩)))).trans h.s.blk, own_sameS h.s.row (fun g cs e hc => hs g cs _ hc (.inr (.inr (.inr (.inr (.inl ⟨rfl, (own_A _ _ _).symm.trans e⟩))))))⟩,
   ⟨(hs _ _ _ h.r.blk (.inr (.inr (.inr (.inl ⟨rfl, rfl⟩))))).trans h.r.blk, own_sameS h.r.row (fun g cs e hc => hs g cs _ hc (.inr (.inr (.inr (.inr (.inr ⟨rfl, (own_A _ _ _).symm.trans e⟩))))))⟩, h.al, h.l0, h.l1⟩

/-- Another plate's call. -/
theorem PtAt.other (h : PtAt w q) (hp : PtAt w p) (hg : Gp w w' p p') (ha : Apart p q) : PtAt w' q := by
  refine h.keep fun i cs t hc ht => hg.same i (ltOf hc) ?_ ?_ ?_ ?_
  · rcases ht with rfl | rfl | ⟨rfl, rfl⟩ | ⟨rfl, rfl⟩ | ⟨rfl, e⟩ | ⟨rfl, e⟩
    · exact ne_of_t hc hp.s.blk (by decide)
    · exact ne_of_t hc hp.s.blk (by decide)
    · exact ha.sb.symm
    · exact ne_of_t hc hp.s.blk (by decide)
    · exact ne_of_t hc hp.s.blk (by decide)
    · exact ne_of_t hc hp.s.blk (by decide)
  · rcases ht with rfl | rfl | ⟨rfl, rfl⟩ | ⟨rfl, rfl⟩ | ⟨rfl, e⟩ | ⟨rfl, e⟩
    · exact ne_of_t hc hp.r.blk (by decide)
    · exact ne_of_t hc hp.r.blk (by decide)
    · exact ne_of_t hc hp.r.blk (by decide)
    · exact ha.rb.symm
    · exact ne_of_t hc hp.r.blk (by decide)
    · exact ne_of_t hc hp.r.blk (by decide)
  · rcases ht with rfl | rfl | ⟨rfl, rfl⟩ | ⟨rfl, rfl⟩ | ⟨rfl, e⟩ | ⟨rfl, e⟩
    · exact hp.s.own_ne hc (by decide)
    · exact hp.s.own_ne hc (by decide)
    · exact hp.s.own_ne hc (by decide)
    · exact hp.s.own_ne hc (by decide)
    · exact ha.symm.so i e
    · exact hp.s.own_ne hc (by decide)
  · rcases ht with rfl | rfl | ⟨rfl, rfl⟩ | ⟨rfl, rfl⟩ | ⟨rfl, e⟩ | ⟨rfl, e⟩
    · exact hp.r.own_ne hc (by decide)
    · exact hp.r.own_ne hc (by decide)
    · exact hp.r.own_ne hc (by decide)
    · exact hp.r.own_ne hc (by decide)
    · exact hp.r.own_ne hc (by decide)
    · exact ha.symm.ro i e

/-- The plates. -/
structure Pls (w : World) (base n m : Nat) (PS : List Pt) (la : Option Addr) (lc : Nat) : Prop where
  row : w.ownsRow base 40 3 (.slice la PS.length lc) PS.length (pcells PS)
  each : ∀ (j : Nat) p, PS[j]? = some p → PtAt w p ∧ lim p.A n m ∧ LoP base p
  apart : ∀ (i j : Nat) p q, i ≠ j → PS[i]? = some p → PS[j]? = some q → Apart p q
  le : base ≤ w.heap.size

variable {base n m : Nat} {PS : List Pt} {la : Option Addr} {lc : Nat}

theorem Pls.nil (h : base ≤ w.heap.size) : Pls w base n m [] none 0 := ⟨⟨rfl, .inl ⟨rfl, rfl⟩⟩, fun j p hp => by simp at hp, fun i j p q _ hp => by simp at hp, h⟩
theorem Pls.mono (h : Pls w base n m PS la lc) {n' m' : Nat} (h1 : n ≤ n') (h2 : m ≤ m') : Pls w base n' m' PS la lc := ⟨h.row, fun j p hp => ⟨(h.each j p hp).1, (h.each j p hp).2.1.mono h1 h2, (h.each j p hp).2.2⟩, h.apart, h.le⟩
theorem Pls.below (h : Pls w base n m PS la lc) (hb : Below w.heap.size w w') : Pls w' base n m PS la lc := ⟨ownsRow_below h.row hb, fun j p hp => ⟨(h.each j p hp).1.below hb, (h.each j p hp).2⟩, h.apart, Nat.le_trans h.le hb.size⟩

/-- Behind an act at one of them. -/
theorem Pls.act (h : Pls w base n m PS la lc) {j : Nat} (hj : PS[j]? = some p) (hp : PtAt w' p') (hg : Gp w w' p p') {n' m' : Nat} (hl : lim p'.A n' m') (h1 : n ≤ n') (h2 : m ≤ m') :
    Pls w' base n' m' (PS.set j p') la lc ∧ (∀ i, i < base → w'.heap[i]? = w.heap[i]?) ∧ w.heap.size ≤ w'.heap.size := by
  obtain ⟨hpw, _, hlo⟩ := h.each j p hj
  have hhi := hpw.hi
  have hlo' : LoP base p' := ⟨by rw [hg.ids.2.2.1]; exact hlo.sb, by rw [hg.ids.2.2.2]; exact hlo.rb, fun g e => (hg.sown g e).elim (hlo.so g) (fun k => Nat.le_trans h.le k), fun g e => (hg.rown g e).elim (hlo.ro g) (fun k => Nat.le_trans h.le k)⟩
  have hap : ∀ (i : Nat) q, i ≠ j → PS[i]? = some q → Apart p' q := fun i q hij hq => by
    have ha := h.apart j i p q (Ne.symm hij) hj hq
    have hqh := (h.each i q hq).1.hi
    refine ⟨by rw [hg.ids.2.2.1]; exact ha.sb, by rw [hg.ids.2.2.2]; exact ha.rb, fun g e c => ?_, fun g e c => ?_⟩
    · rcases hg.sown g e with k | k
      · exact ha.so g k c
      · have := hqh.so g c; omega
    · rcases hg.rown g e with k | k
      · exact ha.ro g k c
      · have := hqh.ro g c; omega
  have hjl : j < PS.length := (List.getElem?_eq_some_iff.1 hj).1
  refine ⟨⟨?_, fun i q hq => ?_, fun i k a b hik ha hb => ?_, Nat.le_trans h.le hg.size⟩, fun i hi => ?_, hg.size⟩
  · rw [List.length_set, pcells_set hj hg.ids]
    refine own_sameS h.row (fun g cs e hc => hg.same g (ltOf hc) (ne_of_t hc hpw.s.blk (by decide)) (ne_of_t hc hpw.r.blk (by decide)) (hpw.s.own_ne hc (by decide)) (hpw.r.own_ne hc (by decide)))
  · by_cases hij : i = j
    · subst hij
      rw [List.getElem?_set_self hjl] at hq
      cases hq
      exact ⟨hp, hl, hlo'⟩
    · rw [List.getElem?_set_ne (Ne.symm hij)] at hq
      obtain ⟨k1, k2, k3⟩ := h.each i q hq
      exact ⟨k1.other hpw hg (h.apart j i p q (Ne.symm hij) hj hq), k2.mono h1 h2, k3⟩
  · by_cases hij : i = j
    · subst hij
      rw [List.getElem?_set_self hjl] at ha
      cases ha
      rw [List.getElem?_set_ne hik] at hb
      exact hap k b (Ne.symm hik) hb
    · rw [List.getElem?_set_ne (Ne.symm hij)] at ha
      by_cases hkj : k = j
      · subst hkj
        rw [List.getElem?_set_self hjl] at hb
        cases hb
        exact (hap i a hij ha).symm
      · rw [List.getElem?_set_ne (Ne.symm hkj)] at hb
        exact h.apart i k a b hik ha hb
  · refine hg.same i (Nat.lt_of_lt_of_le hi h.le) (by have := hlo.sb; omega) (by have := hlo.rb; omega) (fun e => ?_) (fun e => ?_)
    · have := hlo.so i e; omega
    · have := hlo.ro i e; omega

/-- One plate more. -/
theorem Pls.push (h : Pls w base n m PS la lc) (hb : Below w.heap.size w w1) (hp : PtAt w1 p) (hlo : LoP w.heap.size p) (hl : lim p.A n m) {v' : Value}
    (hr : AppRes w1 w5 base 40 3 (.slice la PS.length lc) v' PS.length 1 (pcells PS) [.pointer (some ⟨p.db, 0, none⟩), .pointer (some ⟨p.hb, 0, none⟩), .pointer (some ⟨p.rb, 0, none⟩)]) :
    ∃ la' lc', v' = .slice la' (PS ++ [p]).length lc' ∧ Pls w5 base n m (PS ++ [p]) la' lc' ∧ (∀ i, i < base → w5.heap[i]? = w.heap[i]?) ∧ w.heap.size ≤ w5.heap.size ∧ ∀ (i : Nat) (cs : Array Value) (t : TypeId), w.heap[i]? = some (.cells cs t) → t ≠ 40 → w5.heap[i]? = some (.cells cs t) := by
  obtain ⟨h1, _, h3⟩ := hr
  obtain ⟨la', lc', rfl⟩ := own_shapeZ h1
  have hrow1 := ownsRow_below h.row hb
  have h5 : ∀ (i : Nat) (cs : Array Value) (t : TypeId), w1.heap[i]? = some (.cells cs t) → t ≠ 40 → w5.heap[i]? = w1.heap[i]? := fun i cs t hc ht => by
    rcases h3 with ⟨_, hg⟩ | ⟨_, hg⟩
    · exact hg.block i (ltOf hc) (fun e => by obtain ⟨c', t'⟩ := own_type hrow1 e.symm; exact ne_of_t hc t' ht rfl)
    · exact hg.block i (ltOf hc)
  have h6 : ∀ q, PtAt w1 q → PtAt w5 q := fun q hq => hq.keep fun i cs t hc ht => h5 i cs t hc (by rcases ht with rfl | rfl | ⟨rfl, _⟩ | ⟨rfl, _⟩ | ⟨rfl, _⟩ | ⟨rfl, _⟩ <;> decide)
  have hsz : w1.heap.size ≤ w5.heap.size := by
    rcases h3 with ⟨_, hg⟩ | ⟨_, hg⟩
    · exact hg.size
    · exact hg.size
  have hle := h.le
  have hbs := hb.size
  have hlast : ∀ (i : Nat) q, (PS ++ [p])[i]? = some q → (i < PS.length ∧ PS[i]? = some q) ∨ (i = PS.length ∧ q = p) := fun i q hq => by
    by_cases hi : i < PS.length
    · rw [List.getElem?_append_left hi] at hq
      exact .inl ⟨hi, hq⟩
    · have := (List.getElem?_eq_some_iff.1 hq).1
      simp at this
      have e : i = PS.length := by omega
      subst e
      simp at hq
      exact .inr ⟨rfl, hq.symm⟩
  refine ⟨la', lc', by rw [List.length_append]; rfl, ⟨?_, fun i q hq => ?_, fun i k a b hik ha hb' => ?_, by omega⟩, fun i hi => ?_, by omega, fun i cs t hc ht => ?_⟩
  · rw [List.length_append, pcells_add]
    exact h1
  · rcases hlast i q hq with ⟨_, hq⟩ | ⟨_, rfl⟩
    · obtain ⟨k1, k2, k3⟩ := h.each i q hq
      exact ⟨h6 _ (k1.below hb), k2, k3⟩
    · exact ⟨h6 _ hp, hl, hlo.mono hle⟩
  · rcases hlast i a ha with ⟨_, ha1⟩ | ⟨e1, ea⟩ <;> rcases hlast k b hb' with ⟨_, hb1⟩ | ⟨e2, eb⟩
    · exact h.apart i k a b hik ha1 hb1
    · subst eb
      exact (h.each i a ha1).1.hi.apart hlo
    · subst ea
      exact ((h.each k b hb1).1.hi.apart hlo).symm
    · omega
  · have e1 := hb.block i (by omega)
    rw [← e1]
    rcases h3 with ⟨_, hg⟩ | ⟨_, hg⟩
    · exact hg.block i (by omega) (fun e => by have := (hrow1.lt i e.symm).1; omega)
    · exact hg.block i (by omega)
  · have e1 := (hb.block i (ltOf hc)).trans hc
    exact (h5 i cs t e1 ht).trans e1

theorem St.none {bt rt : TypeId} {K : Nat} (h : w.heap[K]? = some (.cells #[.slice none 0 0, .int .i64 (-1)] bt)) : St bt rt w K (-1) [] none 0 := ⟨h, rfl, .inl ⟨rfl, rfl⟩⟩
theorem St.some {bt rt : TypeId} {K N : Nat} {L : List Fl} {va : Option Addr} {vc : Nat} {lf : Int} (h : w.heap[K]? = some (.cells #[.slice va L.length vc, .int .i64 lf] bt)) (hr : w.ownsRow N rt 3 (.slice va L.length vc) L.length (fcells L)) : St bt rt w K lf L va vc := ⟨h, hr.1, hr.2.imp id (fun ⟨g, cap, cur, k1, _, k3⟩ => ⟨g, cap, cur, k1, Nat.zero_le _, k3⟩)⟩

/-- A new plate. -/
theorem plate_new {W w2 : World} (hs : w2.heap[W.heap.size]? = some (.cells #[.slice none 0 0, .int .i64 (-1)] 82)) (hd : w2.heap[W.heap.size + 1]? = some (.cells #[.pointer (some ⟨W.heap.size, 0, none⟩)] 84)) (hh : w2.heap[W.heap.size + 2]? = some (.cells #[.pointer (some ⟨W.heap.size, 0, none⟩)] 86)) (hb : Below W.heap.size W w2) (o : Obj) :
    ∃ p : Pt, p.db = W.heap.size + 1 ∧ p.hb = W.heap.size + 2 ∧ p.rb = w2.heap.size ∧ PtAt ((w2.alloc (.cells #[.slice none 0 0, .int .i64 (-1)] 89)).alloc o) p ∧ LoP W.heap.size p ∧ Below W.heap.size W ((w2.alloc (.cells #[.slice none 0 0, .int .i64 (-1)] 89)).alloc o) ∧ p.A = [] := by
  have h2 := two_below' w2 (.cells #[.slice none 0 0, .int .i64 (-1)] 89) o
  refine ⟨⟨W.heap.size + 1, W.heap.size + 2, W.heap.size, w2.heap.size, -1, [], [], none, 0, none, 0⟩, rfl, rfl, rfl, ⟨(h2.block _ (ltOf hd)).trans hd, (h2.block _ (ltOf hh)).trans hh, .none ((h2.block _ (ltOf hs)).trans hs), .none (two_first' _ _ _), .nil, (by show (-1 : Int) ≤ -1; omega), (by show (-1 : Int) ≤ 9223372036854775807; omega)⟩, ⟨Nat.le_refl _, hb.size, fun g e => by simp [ownA, Value.ownBlock] at e, fun g e => by simp [ownA, Value.ownBlock] at e⟩, hb.trans (h2.mono hb.size), rfl⟩

/-- A plate behind a crash. -/
theorem plate_crash {W w2 w3 : World} {p : Pt} {keep : Int} {va va' : Option Addr} {vc vc' : Nat} (hp : PtAt W p) (hb : Below W.heap.size W w2) (hd : w2.heap[W.heap.size + 1]? = some (.cells #[.pointer (some ⟨W.heap.size, 0, none⟩)] 84)) (hh : w2.heap[W.heap.size + 2]? = some (.cells #[.pointer (some ⟨W.heap.size, 0, none⟩)] 86))
    (hs : w2.heap[W.heap.size]? = some (.cells #[.slice va (p.A.map (cr keep)).length vc, .int .i64 (-1)] 82)) (hr : w2.ownsRow (W.heap.size + 3) 91 3 (.slice va (p.A.map (cr keep)).length vc) (p.A.map (cr keep)).length (fcells (p.A.map (cr keep))))
    (hb3 : Below w2.heap.size w2 w3) (hs3 : w3.heap[w2.heap.size]? = some (.cells #[.slice va' (p.B.map (cr keep)).length vc', .int .i64 (-1)] 89)) (hr3 : w3.ownsRow (w2.heap.size + 1) 93 3 (.slice va' (p.B.map (cr keep)).length vc') (p.B.map (cr keep)).length (fcells (p.B.map (cr keep)))) (o : Obj) :
    ∃ q : Pt, q.db = W.heap.size + 1 ∧ q.hb = W.heap.size + 2 ∧ q.rb = w2.heap.size ∧ PtAt (w3.alloc o) q ∧ LoP W.heap.size q ∧ Below W.heap.size W (w3.alloc o) ∧ q.A = p.A.map (cr keep) := by
  have h4 := below1 w3 o
  have h24 := hb3.trans (h4.mono hb3.size)
  refine ⟨⟨W.heap.size + 1, W.heap.size + 2, W.heap.size, w2.heap.size, -1, p.A.map (cr keep), p.B.map (cr keep), va, vc, va', vc'⟩, rfl, rfl, rfl, ⟨(h24.block _ (ltOf hd)).trans hd, (h24.block _ (ltOf hh)).trans hh, .some ((h24.block _ (ltOf hs)).trans hs) (ownsRow_below hr h24), .some ((h4.block _ (ltOf hs3)).trans hs3) (ownsRow_below hr3 h4), hp.al.crash keep, (by show (-1 : Int) ≤ -1; omega), (by show (-1 : Int) ≤ 9223372036854775807; omega)⟩, ⟨Nat.le_refl _, hb.size, fun g e => ?_, fun g e => ?_⟩, hb.trans (h24.mono hb.size), rfl⟩
  · have := (hr.lt g ((own_A _ _ _).trans e)).1
    omega
  · have := (hr3.lt g ((own_A _ _ _).trans e)).1
    have := hb.size
    omega

end Go.Proofs.YtlghcldiboecoaaGreatDoor
