/- told's loop: the Feed and what follows it. -/
import Derived.Test.YtkaapaepanhbgaaCTold4
set_option linter.unusedVariables false
set_option linter.unusedSimpArgs false
namespace Go.Proofs.Ytkaapaepanhbgaa
open Go Go.Conc Go.Pair Go.RowKit

noncomputable def B4T : Code := Code.two B3T
theorem B3T_eq : B3T = .seq (.region 13 (Code.ops (Code.one B3T)) false) B4T := rfl
theorem B4T_eq : B4T = .seq (.region 14 (Code.ops (Code.one B4T)) false) (.seq (.seq (.region 15 (Code.ops (Code.one (Code.one (Code.two B4T)))) false) (.cond (.tmp 60) (Code.yes (Code.two (Code.one (Code.two B4T)))) .skip)) (.seq (.region 17 (Code.ops (Code.one (Code.two (Code.two B4T)))) false) (.region 18 (Code.ops (Code.two (Code.two (Code.two B4T)))) false))) := rfl
theorem R9T_eq : R9T = .region 9 (Code.ops R9T) false := rfl
section
variable {Post : Value → World → Prop} {Shun : Loc → Prop} {W w w' w₁ : World} {N0 R : Nat} {p : List UInt8} {tl : Bool} {v outv : Value} {sent : List (List UInt8 × Value)} {fr : Frame} {cs : List Frame}

theorem tact_fed {s0 s1 s7 s8 s9 s10 s11 x y z : Value} (a : Act) (h : a = TAct s0 s1 s7 s8 s9 s10 s11 fun i => a.tmps.getD i undef) (h12 : a.tmps.getD 12 undef = x) (h13 : a.tmps.getD 13 undef = y) (h14 : a.tmps.getD 14 undef = z) : ∃ u, a = TAct s0 s1 s7 s8 s9 s10 s11 u ∧ u 12 = x ∧ u 13 = y ∧ u 14 = z := ⟨_, h, h12, h13, h14⟩

theorem Feeds.ok {p : List UInt8} {tl : Bool} {bs : List UInt8} {bodies : List (List UInt8)} {q : List UInt8} {t : Bool} (h : Feeds p tl bs bodies q t) (hp : OkP p) : OkP q := by
  unfold Feeds at h
  split at h
  · rw [h.2.1]; exact hp
  · exact h.ok hp

set_option maxRecDepth 100000 in
set_option maxHeartbeats 1000000 in
/-- Feed. -/
theorem told_feed {x o len cap n i : Nat} {rem : List UInt8} {s1 lastv : Value} {u : Nat → Value} (hlen : rem.length = len) (hn : n ≤ len) (hb : BytesW W (some ⟨x, o, none⟩) rem cap) (hu : u 12 = .int .i64 n) (hN : N0 ≤ W.heap.size) (hF : TV W N0 R p tl v sent outv Shun w)
    {bodies : List (List UInt8)} {q : List UInt8} {t : Bool} (hC : Feeds p tl (rem.take n) bodies q t) (hbd : bodies.length ≤ 4294967296)
    (hnext : ∀ w' (u' : Nat → Value) v' (sent' : List (List UInt8 × Value)) lv S', u' 12 = .int .i64 n → u' 13 = lv → u' 14 = .int .i64 (if t then 4 else 0) → sent'.map (·.1) = bodies → TV W N0 R q t v' sent outv S' w' → RowIs w' 25 (sent'.map (·.2)) lv →
      (∀ x ∈ sent', ∃ r, W.heap.size ≤ r ∧ x.2 = .slice (some ⟨r, 0, none⟩) x.1.length x.1.length ∧ w'.heap[r]? = some (.cells (bc x.1).toArray 5) ∧ v'.ownBlock ≠ some r) →
      EA Try.prog Post S' (G ((base 6).at (TAct (.slice (some ⟨x, o, none⟩) len cap) s1 (.pointer (some ⟨R, 0, none⟩)) outv (.bool true) lastv (.int .i64 i) u') (.code B4T :: .inBlock 1 :: .code R9T :: LKT)) (fr :: cs)) w') :
    EA Try.prog Post Shun (G ((base 6).at (TAct (.slice (some ⟨x, o, none⟩) len cap) s1 (.pointer (some ⟨R, 0, none⟩)) outv (.bool true) lastv (.int .i64 i) u) (.code B3T :: .inBlock 1 :: .code R9T :: LKT)) (fr :: cs)) w := by
  have T := termsS Shun
  obtain ⟨x', o', csv, e, hx, hcs, hle, hmax⟩ := hb
  cases e
  have hb : BytesW W (some ⟨x, o, none⟩) rem cap := ⟨x, o, csv, rfl, hx, hcs, hle, hmax⟩
  have hev := fun w es => events_sl_h w es (some ⟨x, o, none⟩) len cap n (by omega) (by omega)
  have hj0 : (0 : Int) ≤ (n : Int) := by omega
  have hj1 : (n : Int) ≤ (cap : Int) := by omega
  have hj2 : (len : Int) ≤ (cap : Int) := by omega
  have htk : (rem.take n).length = n := by simp; omega
  refine EA.goes (n := 12) ?_
  rw [B3T_eq]
  refine goes_ctl T rfl (fun _ => stepG_seq) ?_
  simp only [Code.ops, B3T, BT, LT, aft6, body6, Code.core, Code.one, Code.two, Try.f6, Option.getD_some, TAct, hu]
  refine goes_ctl T rfl (fun _ => stepG_region) ?_
  simp only [List.size_toArray, List.length_cons, List.length_nil, Nat.reduceAdd, Nat.zero_add, List.range, List.range.loop]
  refine goes_op rfl (by rfl) (by decide) fun _ hRz Kz hKz => ?_
  replace hF := TV.rely hF hRz
  clear hRz
  (skip)
  go_simp
  try (unfold stored; go_simp)
  refine hKz _ _ ⟨?_, ?_⟩
  · (co_quiet T)
  clear hKz Kz
  try walk_nrm
  refine goes_op rfl (by rfl) (by decide) fun _ hRz Kz hKz => ?_
  replace hF := TV.rely hF hRz
  clear hRz
  (skip)
  go_simp
  try (unfold stored; go_simp)
  refine hKz _ _ ⟨?_, ?_⟩
  · (co_quiet T)
  clear hKz Kz
  try walk_nrm
  refine goes_op rfl (by rfl) (by decide) fun _ hRz Kz hKz => ?_
  replace hF := TV.rely hF hRz
  clear hRz
  (skip)
  go_simp
  try (unfold stored; go_simp)
  refine hKz _ _ ⟨?_, ?_⟩
  · (co_quiet T)
  clear hKz Kz
  try walk_nrm
  refine goes_op rfl (by rfl) (by decide) fun _ hRz Kz hKz => ?_
  replace hF := TV.rely hF hRz
  clear hRz
  (skip)
  go_simp
  try (unfold stored; go_simp)
  refine hKz _ _ ⟨?_, ?_⟩
  · (co_still T)
  clear hKz Kz
  try walk_nrm
  have hfeed := feed_E (Post := Post) hF.rd (BytesW.at hF hb (by omega : n ≤ rem.length)) hF.shun hC hbd
  rw [htk] at hfeed
  refine Goes.mono (goes_callE (f := 10) rfl (by rfl) (by decide) rfl (by walk_nrm; exact hfeed) ?_) (by omega)
  rintro y w' S' ⟨v', sent', lv, rfl, hO⟩
  obtain ⟨hF', hrow, hmsg⟩ := hF.fed hO (hC.ok hF.rd.ok) hN
  have htold := hO.told
  have key : ∀ (k : Nat) (a : Act) (w' : World), (∃ u', a = TAct (.slice (some ⟨x, o, none⟩) len cap) s1 (.pointer (some ⟨R, 0, none⟩)) outv (.bool true) lastv (.int .i64 i) u' ∧ u' 12 = .int .i64 n ∧ u' 13 = lv ∧ u' 14 = .int .i64 (if t then 4 else 0)) →
      TV W N0 R q t v' sent outv S' w' → RowIs w' 25 (sent'.map (·.2)) lv → (∀ x ∈ sent', ∃ r, W.heap.size ≤ r ∧ x.2 = .slice (some ⟨r, 0, none⟩) x.1.length x.1.length ∧ w'.heap[r]? = some (.cells (bc x.1).toArray 5) ∧ v'.ownBlock ≠ some r) →
      Goes Try.prog true AtRel (DS S') (EA Try.prog Post S') k (G ((base 6).at a (.code B4T :: .inBlock 1 :: .code R9T :: LKT)) (fr :: cs)) w' := fun k a w' ⟨u', e, h1, h2, h3⟩ hF h4 h5 => by
    rw [e]
    exact EA.stop (hnext w' u' v' sent' lv S' h1 h2 h3 htold hF h4 h5)
  clear hF hO hfeed T hnext
  have T := termsS S'
  have hG : TV W N0 R q t v' sent outv S' w' ∧ RowIs w' 25 (sent'.map (·.2)) lv ∧ (∀ x ∈ sent', ∃ r, W.heap.size ≤ r ∧ x.2 = .slice (some ⟨r, 0, none⟩) x.1.length x.1.length ∧ w'.heap[r]? = some (.cells (bc x.1).toArray 5) ∧ v'.ownBlock ≠ some r) := ⟨hF', hrow, hmsg⟩
  have rl : ∀ {a b : World}, (TV W N0 R q t v' sent outv S' a ∧ RowIs a 25 (sent'.map (·.2)) lv ∧ (∀ x ∈ sent', ∃ r, W.heap.size ≤ r ∧ x.2 = .slice (some ⟨r, 0, none⟩) x.1.length x.1.length ∧ a.heap[r]? = some (.cells (bc x.1).toArray 5) ∧ v'.ownBlock ≠ some r)) → AtRel a b →
      (TV W N0 R q t v' sent outv S' b ∧ RowIs b 25 (sent'.map (·.2)) lv ∧ (∀ x ∈ sent', ∃ r, W.heap.size ≤ r ∧ x.2 = .slice (some ⟨r, 0, none⟩) x.1.length x.1.length ∧ b.heap[r]? = some (.cells (bc x.1).toArray 5) ∧ v'.ownBlock ≠ some r)) := fun {a b} h r => by
    have e := atRel_heap r
    refine ⟨h.1.heap e, RowIs.back h.2.1 (fun q o _ x => by rw [e]; exact x), fun x hx => ?_⟩
    rw [e]
    exact h.2.2 x hx
  walk_nrm
  refine EA.goes (n := 6) ?_
  refine goes_op rfl (by rfl) (by decide) fun _ hRz Kz hKz => ?_
  replace hG := rl hG hRz
  clear hRz
  (skip)
  go_simp
  try (unfold stored; go_simp)
  refine hKz _ _ ⟨?_, ?_⟩
  · (co_quiet T)
  clear hKz Kz
  try walk_nrm
  refine goes_op rfl (by rfl) (by decide) fun _ hRz Kz hKz => ?_
  replace hG := rl hG hRz
  clear hRz
  (skip)
  go_simp
  try (unfold stored; go_simp)
  refine hKz _ _ ⟨?_, ?_⟩
  · (co_quiet T)
  clear hKz Kz
  try walk_nrm
  refine goes_op rfl (by rfl) (by decide) fun _ hRz Kz hKz => ?_
  replace hG := rl hG hRz
  clear hRz
  (skip)
  go_simp
  try (unfold stored; go_simp)
  refine hKz _ _ ⟨?_, ?_⟩
  · (co_quiet T)
  clear hKz Kz
  try walk_nrm
  refine goes_op rfl (by rfl) (by decide) fun _ hRz Kz hKz => ?_
  replace hG := rl hG hRz
  clear hRz
  (skip)
  go_simp
  try (unfold stored; go_simp)
  refine hKz _ _ ⟨?_, ?_⟩
  · (co_quiet T)
  clear hKz Kz
  try walk_nrm
  refine goes_op rfl (by rfl) (by decide) fun _ hRz Kz hKz => ?_
  replace hG := rl hG hRz
  clear hRz
  (skip)
  go_simp
  try (unfold stored; go_simp)
  refine hKz _ _ ⟨?_, ?_⟩
  · (co_quiet T)
  clear hKz Kz
  try walk_nrm
  refine goes_ctl T rfl (fun _ => stepG_region_end) ?_
  exact key _ _ _ (tact_fed _ rfl rfl rfl rfl) hG.1 hG.2.1 hG.2.2
end
end Go.Proofs.Ytkaapaepanhbgaa
