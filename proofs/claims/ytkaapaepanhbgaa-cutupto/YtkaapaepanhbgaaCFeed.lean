/- Feed: the contract. -/
import Derived.Test.YtkaapaepanhbgaaCEachB
set_option linter.unusedVariables false
set_option linter.unusedSimpArgs false
namespace Go.Proofs.Ytkaapaepanhbgaa
open Go Go.Conc Go.Pair Go.RowKit

/-- What the Cutter makes of more bytes. -/
def Feeds (p : List UInt8) (tl : Bool) (bs : List UInt8) (bodies : List (List UInt8)) (q : List UInt8) (t : Bool) : Prop :=
  if tl then bodies = [] ∧ q = p ∧ t = true else Cuts p bs bodies q t

/-- The Reader at R: its part lies in v. -/
structure RdAt (R : Nat) (p : List UInt8) (tl : Bool) (v : Value) (w : World) : Prop where
  r : w.heap[R]? = some (.cells #[v, .bool tl] 44)
  part : RowIs w 5 (bc p) v
  ok : OkP p

/-- Bytes that lie in a row. -/
def BytesAt (w : World) (ba : Option Addr) (bs : List UInt8) (cap : Nat) (v : Value) : Prop :=
  bs = [] ∨ ∃ x o cs, ba = some ⟨x, o, none⟩ ∧ w.heap[x]? = some (.cells cs 5) ∧ (∀ i (h : i < bs.length), cs[o + i]? = some (.int .u8 (bs[i].toNat : Int))) ∧ bs.length ≤ cap ∧ cap ≤ maxLen ∧ v.ownBlock ≠ some x

/-- What Feed leaves. -/
structure FeedOut (w0 : World) (R : Nat) (v : Value) (bodies : List (List UInt8)) (q : List UInt8) (t : Bool) (v' : Value) (sent : List (List UInt8 × Value)) (lv : Value) (S0 Shun : Loc → Prop) (w : World) : Prop where
  size : w0.heap.size ≤ w.heap.size
  r : w.heap[R]? = some (.cells #[v', .bool t] 44)
  part : RowIs w 5 (bc q) v'
  own : ∀ g, v'.ownBlock = some g → v.ownBlock = some g ∨ w0.heap.size ≤ g
  told : sent.map (·.1) = bodies
  list : RowIs w 25 (sent.map (·.2)) lv
  lown : ∀ g, lv.ownBlock = some g → w0.heap.size ≤ g
  msg : ∀ x ∈ sent, ∃ r, w0.heap.size ≤ r ∧ x.2 = .slice (some ⟨r, 0, none⟩) x.1.length x.1.length ∧ w.heap[r]? = some (.cells (bc x.1).toArray 5) ∧ v'.ownBlock ≠ some r
  keep : ∀ i, i < w0.heap.size → i ≠ R → v.ownBlock ≠ some i → w.heap[i]? = w0.heap[i]?
  shun : ShunW Shun w
  more : ∀ l, Shun l → S0 l ∨ ∃ a : Addr, l = .cell a ∧ w0.heap.size ≤ a.block

section
variable {Post : Value → World → Prop} {Shun : Loc → Prop} {w w0 w₁ w' : World} {fr : Frame} {cs : List Frame} {R Vb : Nat} {v : Value} {p bs : List UInt8} {ba : Option Addr} {cap : Nat}

theorem Cuts.shut {p bs : List UInt8} {bodies : List (List UInt8)} {q : List UInt8} {t : Bool} (h : Cuts p bs bodies q t) (ht : t = true) : q = [] := by
  induction h with
  | done p => cases ht
  | long _ _ => rfl
  | body _ _ _ _ ih => exact ih ht
  | more _ _ _ _ ih => exact ih ht

theorem each_E (h : EachIn R Vb p bs v ba cap Shun w0) {bodies : List (List UInt8)} {q : List UInt8} {t : Bool} (hC : Cuts p bs bodies q t) (hp : OkP p) (hn : bodies.length ≤ 4294967296) :
    CallsE Try.prog Post 12 #[.pointer (some ⟨R, 0, none⟩), .slice ba bs.length cap, clo Vb] Shun w0 (fun x w' Shun' => x = .bool (!t) ∧ ∃ v' sent lv, EachOut w0 R Vb v bodies q t v' sent lv Shun Shun' w') :=
  ⟨Try.f12, body12, Try.func12, by rfl, rfl, fun fr cs hnext => each_open h.shun h.r fun w1 hP => each_add hP fun w2 hP => each_mf hP fun w3 hP => each_fork h hC hp hn hP fun v' sent lv Shun' w' hO => hnext _ _ _ ⟨rfl, v', sent, lv, hO⟩⟩

theorem each_E_closed (hr : w0.heap[R]? = some (.cells #[v, .bool true] 44)) (hp : RowIs w0 5 (bc p) v) (hv : w0.heap[Vb]? = some (.cells #[.slice none 0 0] 29)) (hS : ShunW Shun w0) {bl : Nat} :
    CallsE Try.prog Post 12 #[.pointer (some ⟨R, 0, none⟩), .slice ba bl cap, clo Vb] Shun w0 (fun x w' Shun' => x = .bool (!true) ∧ ∃ v' sent lv, EachOut w0 R Vb v [] p true v' sent lv Shun Shun' w') := by
  refine ⟨Try.f12, body12, Try.func12, by rfl, rfl, fun fr cs hnext => each_closed hS hr fun w1 hP => hnext _ _ _ ⟨rfl, v, [], .slice none 0 0, ?_⟩⟩
  have hk : ∀ i, i < w0.heap.size → w1.heap[i]? = w0.heap[i]? := fun i hi => hP.old i hi
  refine ⟨by rw [hP.size]; omega, by rw [hk _ (lt_of_get hr)]; exact hr, RowIs.back hp (fun q o _ h => by rw [hk _ (lt_of_get h)]; exact h), fun g hg => .inl hg, rfl, by rw [hk _ (lt_of_get hv)]; exact hv, .inl ⟨rfl, rfl⟩, fun g hg => by simp [Value.ownBlock] at hg, fun x hx => by simp at hx, fun i h1 _ _ _ => hk i h1, fun l hl => ?_, fun l hl => .inl hl⟩
  obtain ⟨a, e, o, h1, h2⟩ := hS l hl
  exact ⟨a, e, o, by rw [hk _ (lt_of_get h1)]; exact h1, h2⟩

/-- Both. -/
theorem each_E_any {tl : Bool} (hR : RdAt R p tl v w0) (hb : BytesAt w0 ba bs cap v) (hv : w0.heap[Vb]? = some (.cells #[.slice none 0 0] 29)) (hS : ShunW Shun w0) {bodies : List (List UInt8)} {q : List UInt8} {t : Bool} (hC : Feeds p tl bs bodies q t) (hn : bodies.length ≤ 4294967296) :
    CallsE Try.prog Post 12 #[.pointer (some ⟨R, 0, none⟩), .slice ba bs.length cap, clo Vb] Shun w0 (fun x w' Shun' => x = .bool (!t) ∧ ∃ v' sent lv, EachOut w0 R Vb v bodies q t v' sent lv Shun Shun' w') := by
  cases tl with
  | true =>
    simp only [Feeds, if_true] at hC
    obtain ⟨rfl, rfl, rfl⟩ := hC
    exact each_E_closed hR.r hR.part hv hS
  | false =>
    simp only [Feeds, Bool.false_eq_true, if_false] at hC
    exact each_E ⟨hR.r, hR.part, hv, hb, hS⟩ hC hR.ok hn

noncomputable def body10 : Code := Try.f10.body.getD .skip

theorem PV.rd {os : List Obj} {tl : Bool} (hP : PV w0 os w) (h : RdAt R p tl v w0) : RdAt R p tl v w :=
  ⟨by rw [hP.old _ (lt_of_get h.r)]; exact h.r, RowIs.back h.part (fun q o _ h => by rw [hP.old _ (lt_of_get h)]; exact h), h.ok⟩
theorem PV.bytes {os : List Obj} (hP : PV w0 os w) (h : BytesAt w0 ba bs cap v) : BytesAt w ba bs cap v := by
  rcases h with h | ⟨x, o, cs, h1, h2, h3⟩
  · exact .inl h
  · exact .inr ⟨x, o, cs, h1, by rw [hP.old _ (lt_of_get h2)]; exact h2, h3⟩
theorem PV.shun {os : List Obj} (hP : PV w0 os w) (h : ShunW Shun w0) : ShunW Shun w := fun l hl => by
  obtain ⟨a, e, o, h1, h2⟩ := h l hl
  exact ⟨a, e, o, by rw [hP.old _ (lt_of_get h1)]; exact h1, h2⟩

theorem EachOut.feed {S0 : Loc → Prop} {bodies : List (List UInt8)} {q : List UInt8} {t : Bool} {v' : Value} {sent : List (List UInt8 × Value)} {lv : Value} {o : Obj} (h : EachOut w R w0.heap.size v bodies q t v' sent lv S0 Shun w') (hP : PV w0 [o] w) : FeedOut w0 R v bodies q t v' sent lv S0 Shun w' := by
  have hsz := hP.size
  simp at hsz
  have := h.size
  refine ⟨by omega, h.r, h.part, fun g hg => (h.own g hg).imp id (fun x => by omega), h.told, h.list, fun g hg => by have := h.lown g hg; omega, fun x hx => ?_, fun i h1 h2 h3 => ?_, h.shun, fun l hl => (h.more l hl).imp id fun ⟨a, e, h⟩ => ⟨a, e, by omega⟩⟩
  · obtain ⟨r, h1, h2⟩ := h.msg x hx
    exact ⟨r, by omega, h2⟩
  · rw [h.keep i (by omega) h2 h3 (by omega), hP.old i h1]
theorem FeedOut.heap {S0 : Loc → Prop} {bodies : List (List UInt8)} {q : List UInt8} {t : Bool} {v' : Value} {sent : List (List UInt8 × Value)} {lv : Value} (h : FeedOut w0 R v bodies q t v' sent lv S0 Shun w) (e : w'.heap = w.heap) : FeedOut w0 R v bodies q t v' sent lv S0 Shun w' := by
  refine ⟨by rw [e]; exact h.size, by rw [e]; exact h.r, RowIs.back h.part (fun q o _ x => by rw [e]; exact x), h.own, h.told, RowIs.back h.list (fun q o _ x => by rw [e]; exact x), h.lown, fun x hx => ?_, fun i h1 h2 h3 => by rw [e]; exact h.keep i h1 h2 h3, h.shun.heap e, h.more⟩
  obtain ⟨r, h1, h2, h3, h4⟩ := h.msg x hx
  exact ⟨r, h1, h2, by rw [e]; exact h3, h4⟩

set_option maxRecDepth 100000 in
set_option maxHeartbeats 1000000 in
theorem feed_E {tl : Bool} (hR : RdAt R p tl v w0) (hb : BytesAt w0 ba bs cap v) (hS : ShunW Shun w0) {bodies : List (List UInt8)} {q : List UInt8} {t : Bool} (hC : Feeds p tl bs bodies q t) (hn : bodies.length ≤ 4294967296) :
    CallsE Try.prog Post 10 #[.pointer (some ⟨R, 0, none⟩), .slice ba bs.length cap] Shun w0 (fun x w' Shun' => ∃ v' sent lv, x = .tuple #[lv, .int .i64 (if t then 4 else 0)] ∧ FeedOut w0 R v bodies q t v' sent lv Shun Shun' w') := by
  refine ⟨Try.f10, body10, Try.func10, by rfl, rfl, fun fr cs hnext => ?_⟩
  have T := termsS Shun
  refine EA.goes (n := 30) ?_
  have hF := PV.start w0
  simp only [Try.ntmps10, List.size_toArray, List.length_cons, List.length_nil, Nat.reduceAdd, Nat.reduceSub, Array.replicate_succ, Array.replicate_zero, List.push_toArray, List.append_toArray, List.nil_append, List.cons_append]
  simp only [body10, Try.f10, Option.getD_some]
  refine goes_ctl T rfl (fun _ => stepG_seq) ?_
  refine goes_ctl T rfl (fun _ => stepG_region) ?_
  simp only [List.size_toArray, List.length_cons, List.length_nil, Nat.reduceAdd, Nat.zero_add, List.range, List.range.loop]
  refine goes_op rfl (by rfl) (by decide) fun _ hRz Kz hKz => ?_
  replace hF := PV.rely hF hRz
  clear hRz
  (skip)
  go_simp
  try (unfold stored; go_simp)
  refine hKz _ _ ⟨?_, ?_⟩
  · (co_quiet T)
  clear hKz Kz
  try walk_nrm
  refine goes_op rfl (by rfl) (by decide) fun _ hRz Kz hKz => ?_
  replace hF := PV.rely hF hRz
  clear hRz
  (skip)
  go_simp
  try (unfold stored; go_simp)
  refine hKz _ _ ⟨?_, ?_⟩
  · (co_quiet T)
  clear hKz Kz
  try walk_nrm
  refine goes_ctl T rfl (fun _ => stepG_region_end) ?_
  refine goes_ctl T rfl (fun _ => stepG_seq) ?_
  refine goes_ctl T rfl (fun _ => stepG_region) ?_
  simp only [List.size_toArray, List.length_cons, List.length_nil, Nat.reduceAdd, Nat.zero_add, List.range, List.range.loop]
  refine goes_op rfl (by rfl) (by decide) fun _ hRz Kz hKz => ?_
  replace hF := PV.rely hF hRz
  clear hRz
  (skip)
  go_simp
  try (unfold stored; go_simp)
  refine hKz _ _ ⟨?_, ?_⟩
  · (rw [listed_nil (by simp [go_sem])]; exact ds_alloc _ _)
  clear hKz Kz
  try walk_nrm
  simp only [hF.size, List.length_nil, Nat.add_zero]
  replace hF := hF.push (.cells #[.slice none 0 0] 29)
  simp only [List.nil_append] at hF
  refine goes_ctl T rfl (fun _ => stepG_region_end) ?_
  refine goes_ctl T rfl (fun _ => stepG_seq) ?_
  refine goes_ctl T rfl (fun _ => stepG_region) ?_
  simp only [List.size_toArray, List.length_cons, List.length_nil, Nat.reduceAdd, Nat.zero_add, List.range, List.range.loop]
  refine goes_op rfl (by rfl) (by decide) fun _ hRz Kz hKz => ?_
  replace hF := PV.rely hF hRz
  clear hRz
  (skip)
  go_simp
  try (unfold stored; go_simp)
  refine hKz _ _ ⟨?_, ?_⟩
  · (co_quiet T)
  clear hKz Kz
  try walk_nrm
  refine goes_op rfl (by rfl) (by decide) fun _ hRz Kz hKz => ?_
  replace hF := PV.rely hF hRz
  clear hRz
  (skip)
  go_simp
  try (unfold stored; go_simp)
  refine hKz _ _ ⟨?_, ?_⟩
  · (co_quiet T)
  clear hKz Kz
  try walk_nrm
  refine goes_op rfl (by rfl) (by decide) fun _ hRz Kz hKz => ?_
  replace hF := PV.rely hF hRz
  clear hRz
  (skip)
  go_simp
  try (unfold stored; go_simp)
  refine hKz _ _ ⟨?_, ?_⟩
  · (co_quiet T)
  clear hKz Kz
  try walk_nrm
  refine goes_op rfl (by rfl) (by decide) fun _ hRz Kz hKz => ?_
  replace hF := PV.rely hF hRz
  clear hRz
  (skip)
  go_simp
  try (unfold stored; go_simp)
  refine hKz _ _ ⟨?_, ?_⟩
  · (co_quiet T)
  clear hKz Kz
  try walk_nrm
  refine goes_op rfl (by rfl) (by decide) fun _ hRz Kz hKz => ?_
  replace hF := PV.rely hF hRz
  clear hRz
  (skip)
  go_simp
  try (unfold stored; go_simp)
  refine hKz _ _ ⟨?_, ?_⟩
  · (co_quiet T)
  clear hKz Kz
  try walk_nrm
  refine Goes.mono (goes_callE (f := 12) rfl (by rfl) (by decide) rfl (by walk_nrm; exact each_E_any (Vb := w0.heap.size) (PV.rd hF hR) (PV.bytes hF hb) (hF.new 0 _ rfl) (PV.shun hF hS) hC hn) ?_) (by omega)
  rintro x w' Shun' ⟨rfl, v', sent, lv, hO⟩
  have hout := hO.feed hF
  have hvb := hO.vb
  have hS' := hO.shun
  clear hO hF T
  have T := termsS Shun'
  walk_nrm
  refine EA.goes (n := 30) ?_
  have hF := PV.start w'
  refine goes_op rfl (by rfl) (by decide) fun _ hRz Kz hKz => ?_
  replace hF := PV.rely hF hRz
  clear hRz
  (skip)
  go_simp
  try (unfold stored; go_simp)
  refine hKz _ _ ⟨?_, ?_⟩
  · (co_quiet T)
  clear hKz Kz
  try walk_nrm
  refine goes_ctl T rfl (fun _ => stepG_region_end) ?_
  refine goes_ctl T rfl (fun _ => stepG_seq) ?_
  refine goes_ctl T rfl (fun _ => stepG_seq) ?_
  refine goes_ctl T rfl (fun _ => stepG_region) ?_
  simp only [List.size_toArray, List.length_cons, List.length_nil, Nat.reduceAdd, Nat.zero_add, List.range, List.range.loop]
  refine goes_op rfl (by rfl) (by decide) fun _ hRz Kz hKz => ?_
  replace hF := PV.rely hF hRz
  clear hRz
  (skip)
  go_simp
  try (unfold stored; go_simp)
  refine hKz _ _ ⟨?_, ?_⟩
  · (co_quiet T)
  clear hKz Kz
  try walk_nrm
  refine goes_op rfl (by rfl) (by decide) fun _ hRz Kz hKz => ?_
  replace hF := PV.rely hF hRz
  clear hRz
  (skip)
  go_simp
  try (unfold stored; go_simp)
  refine hKz _ _ ⟨?_, ?_⟩
  · (co_quiet T)
  clear hKz Kz
  try walk_nrm
  refine goes_ctl T rfl (fun _ => stepG_region_end) ?_
  cases t with
  | true =>
    refine goes_ctl T rfl (fun _ => (stepG_cond (t := true) rfl)) ?_
    simp only [if_true]
    refine goes_ctl T rfl (fun _ => stepG_seq) ?_
    refine goes_ctl T rfl (fun _ => stepG_region) ?_
    simp only [List.size_toArray, List.length_cons, List.length_nil, Nat.reduceAdd, Nat.zero_add, List.range, List.range.loop]
    refine goes_op rfl (by rfl) (by decide) fun _ hRz Kz hKz => ?_
    replace hF := PV.rely hF hRz
    clear hRz
    (have hc := hF.cellOld (j := 0) hvb rfl)
    go_simp
    try (unfold stored; go_simp)
    refine hKz _ _ ⟨?_, ?_⟩
    · (refine ds_read ?_; co_evs (exact evL_cell (hS'.not hvb (by simp [kindOf])) (by rw [hF.size]; exact lt_of_get hvb)))
    clear hKz Kz
    try walk_nrm
    refine goes_op rfl (by rfl) (by decide) fun _ hRz Kz hKz => ?_
    replace hF := PV.rely hF hRz
    clear hRz
    (skip)
    go_simp
    try (unfold stored; go_simp)
    refine hKz _ _ ⟨?_, ?_⟩
    · (co_quiet T)
    clear hKz Kz
    try walk_nrm
    refine goes_op rfl (by rfl) (by decide) fun _ hRz Kz hKz => ?_
    replace hF := PV.rely hF hRz
    clear hRz
    (skip)
    go_simp
    try (unfold stored; go_simp)
    refine hKz _ _ ⟨?_, ?_⟩
    · (co_quiet T)
    clear hKz Kz
    try walk_nrm
    refine goes_ctl T rfl (fun _ => stepG_region_end) ?_
    refine goes_ctl T rfl (fun _ => stepG_ret') ?_
    refine goes_ctl T rfl (fun w => stepG_leave (v := .tuple #[lv, .int .i64 4]) rfl rfl Try.func10 (results_tmp2 (t := 4) (u := 5) (by rfl) _ _ _) (events_results_tmp2 (t := 4) (u := 5) (by rfl) _ _)) ?_
    exact EA.stop (hnext _ _ _ ⟨v', sent, lv, rfl, hout.heap (PV.same hF)⟩)
  | false =>
    refine goes_ctl T rfl (fun _ => (stepG_cond (t := false) rfl)) ?_
    simp only [Bool.false_eq_true, if_false]
    refine goes_ctl T rfl (fun _ => stepG_skip) ?_
    refine goes_ctl T rfl (fun _ => stepG_seq) ?_
    refine goes_ctl T rfl (fun _ => stepG_region) ?_
    simp only [List.size_toArray, List.length_cons, List.length_nil, Nat.reduceAdd, Nat.zero_add, List.range, List.range.loop]
    refine goes_op rfl (by rfl) (by decide) fun _ hRz Kz hKz => ?_
    replace hF := PV.rely hF hRz
    clear hRz
    (have hc := hF.cellOld (j := 0) hvb rfl)
    go_simp
    try (unfold stored; go_simp)
    refine hKz _ _ ⟨?_, ?_⟩
    · (refine ds_read ?_; co_evs (exact evL_cell (hS'.not hvb (by simp [kindOf])) (by rw [hF.size]; exact lt_of_get hvb)))
    clear hKz Kz
    try walk_nrm
    refine goes_op rfl (by rfl) (by decide) fun _ hRz Kz hKz => ?_
    replace hF := PV.rely hF hRz
    clear hRz
    (skip)
    go_simp
    try (unfold stored; go_simp)
    refine hKz _ _ ⟨?_, ?_⟩
    · (co_quiet T)
    clear hKz Kz
    try walk_nrm
    refine goes_op rfl (by rfl) (by decide) fun _ hRz Kz hKz => ?_
    replace hF := PV.rely hF hRz
    clear hRz
    (skip)
    go_simp
    try (unfold stored; go_simp)
    refine hKz _ _ ⟨?_, ?_⟩
    · (co_quiet T)
    clear hKz Kz
    try walk_nrm
    refine goes_ctl T rfl (fun _ => stepG_region_end) ?_
    refine goes_ctl T rfl (fun _ => stepG_ret') ?_
    refine goes_ctl T rfl (fun w => stepG_leave (v := .tuple #[lv, .int .i64 0]) rfl rfl Try.func10 (results_tmp2 (t := 4) (u := 5) (by rfl) _ _ _) (events_results_tmp2 (t := 4) (u := 5) (by rfl) _ _)) ?_
    exact EA.stop (hnext _ _ _ ⟨v', sent, lv, rfl, hout.heap (PV.same hF)⟩)
end
end Go.Proofs.Ytkaapaepanhbgaa
