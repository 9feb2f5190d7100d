/- Feed: the contract. -/
import Derived.Test.YtlghcldiboecoaaGreatDoorQ35
import Derived.Test.YtlghcldiboecoaaGreatDoorQ00
set_option linter.unusedVariables false
set_option linter.unusedSimpArgs false
set_option maxRecDepth 100000
namespace Go.Proofs.YtlghcldiboecoaaGreatDoor.Cu
open Go Go.Conc Go.Pair Go.RowKit

def Feeds (p : List UInt8) (tl : Bool) (bs : List UInt8) (bodies : List (List UInt8)) (q : List UInt8) (t : Bool) : Prop :=
  if tl then bodies = [] ∧ q = p ∧ t = true else Cuts p bs bodies q t

structure RdAt (R : Nat) (p : List UInt8) (tl : Bool) (v : Value) (w : World) : Prop where
  r : w.heap[R]? = some (.cells #[v, .bool tl] 237)
  part : RowIs w 5 (bc p) v
  ok : OkP p

def BytesAt (w : World) (ba : Option Addr) (bs : List UInt8) (cap : Nat) (v : Value) : Prop :=
  bs = [] ∨ ∃ x o cs, ba = some ⟨x, o, none⟩ ∧ w.heap[x]? = some (.cells cs 5) ∧ (∀ i (h : i < bs.length), cs[o + i]? = some (.int .u8 (bs[i].toNat : Int))) ∧ bs.length ≤ cap ∧ cap ≤ maxLen ∧ v.ownBlock ≠ some x

structure FeedOut (w0 : World) (R : Nat) (v : Value) (bodies : List (List UInt8)) (q : List UInt8) (t : Bool) (v' : Value) (sent : List (List UInt8 × Value)) (lv : Value) (S0 Shun : Loc → Prop) (w : World) : Prop where
  size : w0.heap.size ≤ w.heap.size
  r : w.heap[R]? = some (.cells #[v', .bool t] 237)
  part : RowIs w 5 (bc q) v'
  own : ∀ g, v'.ownBlock = some g → v.ownBlock = some g ∨ w0.heap.size ≤ g
  told : sent.map (·.1) = bodies
  list : RowIs w 57 (sent.map (·.2)) lv
  lown : ∀ g, lv.ownBlock = some g → w0.heap.size ≤ g
  msg : ∀ x ∈ sent, ∃ r, w0.heap.size ≤ r ∧ x.2 = .slice (some ⟨r, 0, none⟩) x.1.length x.1.length ∧ w.heap[r]? = some (.cells (bc x.1).toArray 5) ∧ v'.ownBlock ≠ some r
  keep : ∀ i, i < w0.heap.size → i ≠ R → v.ownBlock ≠ some i → w.heap[i]? = w0.heap[i]?
  shun : ShunW Shun w
  more : ∀ l, Shun l → S0 l ∨ ∃ a : Addr, l = .cell a ∧ w0.heap.size ≤ a.block
  dis : Dis sent

section
variable {Post : Value → World → Prop} {Shun : Loc → Prop} {w w0 w₁ w' : World} {fr : Frame} {cs : List Frame} {R Vb : Nat} {v : Value} {p bs : List UInt8} {ba : Option Addr} {cap : Nat}

theorem each_E (h : EachIn R Vb p bs v ba cap Shun w0) {bodies : List (List UInt8)} {q : List UInt8} {t : Bool} (hC : Cuts p bs bodies q t) (hp : OkP p) (hn : bodies.length ≤ 4294967296) :
    CallsE Tryz.prog Post 118 #[.pointer (some ⟨R, 0, none⟩), .slice ba bs.length cap, clo Vb] Shun w0 (fun x w' Shun' => x = .bool (!t) ∧ ∃ v' sent lv, EachOut w0 R Vb v bodies q t v' sent lv Shun Shun' w') :=
  ⟨Tryz.f118, body12, Tryz.func118, by rfl, rfl, fun fr cs hnext => each_open h.shun h.r fun w1 hP => each_add hP fun w2 hP => each_mf hP fun w3 hP => each_fork h hC hp hn hP fun v' sent lv Shun' w' hO => hnext _ _ _ ⟨rfl, v', sent, lv, hO⟩⟩

theorem each_E_closed (hr : w0.heap[R]? = some (.cells #[v, .bool true] 237)) (hp : RowIs w0 5 (bc p) v) (hv : w0.heap[Vb]? = some (.cells #[.slice none 0 0] 122)) (hS : ShunW Shun w0) {bl : Nat} :
    CallsE Tryz.prog Post 118 #[.pointer (some ⟨R, 0, none⟩), .slice ba bl cap, clo Vb] Shun w0 (fun x w' Shun' => x = .bool (!true) ∧ ∃ v' sent lv, EachOut w0 R Vb v [] p true v' sent lv Shun Shun' w') := by
  refine ⟨Tryz.f118, body12, Tryz.func118, by rfl, rfl, fun fr cs hnext => each_closed hS hr fun w1 hP => hnext _ _ _ ⟨rfl, v, [], .slice none 0 0, ?_⟩⟩
  have hk : ∀ i, i < w0.heap.size → w1.heap[i]? = w0.heap[i]? := fun i hi => hP.old i hi
  refine ⟨by rw [hP.size]; omega, by rw [hk _ (lt_of_get hr)]; exact hr, RowIs.back hp (fun q o _ h => by rw [hk _ (lt_of_get h)]; exact h), fun g hg => .inl hg, rfl, by rw [hk _ (lt_of_get hv)]; exact hv, .inl ⟨rfl, rfl⟩, fun g hg => by simp [Value.ownBlock] at hg, fun x hx => by simp at hx, fun i h1 _ _ _ => hk i h1, fun l hl => ?_, fun l hl => .inl hl, .nil⟩
  obtain ⟨a, e, o, h1, h2⟩ := hS l hl
  exact ⟨a, e, o, by rw [hk _ (lt_of_get h1)]; exact h1, h2⟩

theorem each_E_any {tl : Bool} (hR : RdAt R p tl v w0) (hb : BytesAt w0 ba bs cap v) (hv : w0.heap[Vb]? = some (.cells #[.slice none 0 0] 122)) (hS : ShunW Shun w0) {bodies : List (List UInt8)} {q : List UInt8} {t : Bool} (hC : Feeds p tl bs bodies q t) (hn : bodies.length ≤ 4294967296) :
    CallsE Tryz.prog Post 118 #[.pointer (some ⟨R, 0, none⟩), .slice ba bs.length cap, clo Vb] Shun w0 (fun x w' Shun' => x = .bool (!t) ∧ ∃ v' sent lv, EachOut w0 R Vb v bodies q t v' sent lv Shun Shun' w') := by
  cases tl with
  | true =>
    simp only [Feeds, if_true] at hC
    obtain ⟨rfl, rfl, rfl⟩ := hC
    exact each_E_closed hR.r hR.part hv hS
  | false =>
    simp only [Feeds, Bool.false_eq_true, if_false] at hC
    exact each_E ⟨hR.r, hR.part, hv, hb, hS⟩ hC hR.ok hn

noncomputable def body10 : Code := Tryz.f97.body.getD .skip

theorem PV.rd {os : List Obj} {tl : Bool} (hP : PV w0 os w) (h : RdAt R p tl v w0) : RdAt R p tl v w :=
  ⟨by rw [hP.old _ (lt_of_get h.r)]; exact h.r, RowIs.back h.part (fun q o _ h => by rw [hP.old _ (lt_of_get h)]; exact h), h.ok⟩

theorem PV.bytes {os : List Obj} (hP : PV w0 os w) (h : BytesAt w0 ba bs cap v) : BytesAt w ba bs cap v := by
  rcases h with h | ⟨x, o, cs, h1, h2, h3⟩
  · exact .inl h
  · exact .inr ⟨x, o, cs, h1, by rw [hP.old _ (lt_of_get h2)]; exact h2, h3⟩

theorem PV.shun {os : List Obj} (hP : PV w0 os w) (h : ShunW Shun w0) : ShunW Shun w := fun l hl => by
  obtain ⟨a, e, o, h1, h2⟩ := h l hl
  exact ⟨a, e, o, by rw [hP.old _ (lt_of_get h1)]; exact h1, h2⟩

theorem EachOut.feed {S0 : Loc → Prop} {bodies : List (List UInt8)} {q : List UInt8} {t : Bool} {v' : Value} {sent : List (List UInt8 × Value)} {lv : Value} {o : Obj} (h : EachOut w R w0.heap.size v bodies q t v' sent lv S0 Shun w') (hP : PV w0 [o] w) : FeedOut w0 R v bodies q t v' sent lv S0 Shun w' := by
  have hsz := hP.size
  simp at hsz
  have := h.size
  refine ⟨by omega, h.r, h.part, fun g hg => (h.own g hg).imp id (fun x => by omega), h.told, h.list, fun g hg => by have := h.lown g hg; omega, fun x hx => ?_, fun i h1 h2 h3 => ?_, h.shun, fun l hl => (h.more l hl).imp id fun ⟨a, e, h⟩ => ⟨a, e, by omega⟩, h.dis⟩
  · obtain ⟨r, h1, h2⟩ := h.msg x hx
    exact ⟨r, by omega, h2⟩
  · rw [h.keep i (by omega) h2 h3 (by omega), hP.old i h1]

theorem FeedOut.heap {S0 : Loc → Prop} {bodies : List (List UInt8)} {q : List UInt8} {t : Bool} {v' : Value} {sent : List (List UInt8 × Value)} {lv : Value} (h : FeedOut w0 R v bodies q t v' sent lv S0 Shun w) (e : w'.heap = w.heap) : FeedOut w0 R v bodies q t v' sent lv S0 Shun w' := by
  refine ⟨by rw [e]; exact h.size, by rw [e]; exact h.r, RowIs.back h.part (fun q o _ x => by rw [e]; exact x), h.own, h.told, RowIs.back h.list (fun q o _ x => by rw [e]; exact x), h.lown, fun x hx => ?_, fun i h1 h2 h3 => by rw [e]; exact h.keep i h1 h2 h3, h.shun.heap e, h.more, h.dis⟩
  obtain ⟨r, h1, h2, h3, h4⟩ := h.msg x hx
  exact ⟨r, h1, h2, by rw [e]; exact h3, h4⟩

set_option maxRecDepth 100000 in
set_option maxHeartbeats 1000000 in
theorem feed_E {tl : Bool} (hR : RdAt R p tl v w0) (hb : BytesAt w0 ba bs cap v) (hS : ShunW Shun w0) {bodies : List (List UInt8)} {q : List UInt8} {t : Bool} (hC : Feeds p tl bs bodies q t) (hn : bodies.length ≤ 4294967296) :
    CallsE Tryz.prog Post 97 #[.pointer (some ⟨R, 0, none⟩), .slice ba bs.length cap] Shun w0 (fun x w' Shun' => ∃ v' sent lv, x = .tuple #[lv, .int .i64 (if t then 4 else 0)] ∧ FeedOut w0 R v bodies q t v' sent lv Shun Shun' w') := by
  refine ⟨Tryz.f97, body10, Tryz.func97, by rfl, rfl, fun fr cs hnext => ?_⟩
  have T := termsS Shun
  refine EA.goes (n := 30) ?_
  have hF := PV.start w0
  simp only [Tryz.ntmps97, List.size_toArray, List.length_cons, List.length_nil, Nat.reduceAdd, Nat.reduceSub, Array.replicate_succ, Array.replicate_zero, List.push_toArray, List.append_toArray, List.nil_append, List.cons_append]
  simp only [body10, Tryz.f97, Option.getD_some]
  refine goes_ctl T rfl (fun _ => stepG_seq) ?_
  refine goes_ctl T rfl (fun _ => stepG_region) ?_
  simp only [List.size_toArray, List.length_cons, List.length_nil, Nat.reduceAdd, Nat.zero_add, List.range, List.range.loop]
  refine goes_op rfl (by rfl) (by decide) fun _ hRz Kz hKz => ?_
  replace hF := PV.rely hF hRz
  clear hRz
  (skip)
  go_simp
  try (unfold stored; go_simp)
  refine hKz _ _ ⟨?_, ?_⟩
  · (co_quiet T)
  clear hKz Kz
  try walk_nrm
  refine goes_op rfl (by rfl) (by decide) fun _ hRz Kz hKz => ?_
  replace hF := PV.rely hF hRz
  clear hRz
  (skip)
  go_simp
  try (unfold stored; go_simp)
  refine hKz _ _ ⟨?_, ?_⟩
  · (co_quiet T)
  clear hKz Kz
  try walk_nrm
  refine goes_ctl T rfl (fun _ => stepG_region_end) ?_
  refine goes_ctl T rfl (fun _ => stepG_seq) ?_
  refine goes_ctl T rfl (fun _ => stepG_region) ?_
  simp only [List.size_toArray, List.length_cons, List.length_nil, Nat.reduceAdd, Nat.zero_add, List.range, List.range.loop]
  refine goes_op rfl (by rfl) (by decide) fun _ hRz Kz hKz => ?_
  replace hF := PV.rely hF hRz
  clear hRz
  (skip)
  go_simp
  try (unfold stored; go_simp)
  refine hKz _ _ ⟨?_, ?_⟩
  · (rw [listed_nil (by simp [go_sem])]; exact ds_alloc _ _)
  clear hKz Kz
  try walk_nrm
  simp only [hF.size, List.length_nil, Nat.add_zero]
  replace hF := hF.push (.cells #[.slice none 0 0] 122)
  simp only [List.nil_append] at hF
  refine goes_ctl T rfl (fun _ => stepG_region_end) ?_
  refine goes_ctl T rfl (fun _ => stepG_seq) ?_
  refine goes_ctl T rfl (fun _ => stepG_region) ?_
  simp only [List.size_toArray, List.length_cons, List.length_nil, Nat.reduceAdd, Nat.zero_add, List.range, List.range.loop]
  refine goes_op rfl (by rfl) (by decide) fun _ hRz Kz hKz => ?_
  replace hF := PV.rely hF hRz
  clear hRz
  (skip)
  go_simp
  try (unfold stored; go_simp)
  refine hKz _ _ ⟨?_, ?_⟩
  · (co_quiet T)
  clear hKz Kz
  try walk_nrm
  refine goes_op rfl (by rfl) (by decide) fun _ hRz Kz hKz => ?_
  replace hF := PV.rely hF hRz
  clear hRz
  (skip)
  go_simp
  try (unfold stored; go_simp)
  refine hKz _ _ ⟨?_, ?_⟩
  · (co_quiet T)
  clear hKz Kz
  try walk_nrm
  refine goes_op rfl (by rfl) (by decide) fun _ hRz Kz hKz => ?_
  replace hF := PV.rely hF hRz
  clear hRz
  (skip)
  go_simp
  try (unfold stored; go_simp)
  refine hKz _ _ ⟨?_, ?_⟩
  · (co_quiet T)
  clear hKz Kz
  try walk_nrm
  refine goes_op rfl (by rfl) (by decide) fun _ hRz Kz hKz => ?_
  replace hF := PV.rely hF hRz
  clear hRz
  (skip)
  go_simp
  try (unfold stored; go_simp)
  refine hKz _ _ ⟨?_, ?_⟩
  · (co_quiet T)
  clear hKz Kz
  try walk_nrm
  refine goes_op rfl (by rfl) (by decide) fun _ hRz Kz hKz => ?_
  replace hF := PV.rely hF hRz
  clear hRz
  (skip)
  go_simp
  try (unfold stored; go_simp)
  refine hKz _ _ ⟨?_, ?_⟩
  · (co_quiet T)
  clear hKz Kz
  try walk_nrm
  refine Goes.mono (goes_callE (f := 118) rfl (by rfl) (by decide) rfl (by walk_nrm; exact each_E_any (Vb := w0.heap.size) (PV.rd hF hR) (PV.bytes hF hb) (hF.new 0 _ rfl) (PV.shun hF hS) hC hn) ?_) (by omega)
  rintro x w' Shun' ⟨rfl, v', sent, lv, hO⟩
  have hout := hO.feed hF
  have hvb := hO.vb
  have hS' := hO.shun
  clear hO hF T
  have T := termsS Shun'
  walk_nrm
  refine EA.goes (n := 30) ?_
  have hF := PV.start w'
  refine goes_op rfl (by rfl) (by decide) fun _ hRz Kz hKz => ?_
  replace hF := PV.rely hF hRz
  clear hRz
  (skip)
  go_simp
  try (unfold stored; go_simp)
  refine hKz _ _ ⟨?_, ?_⟩
  · (co_quiet T)
  clear hKz Kz
  try walk_nrm
  refine goes_ctl T rfl (fun _ => stepG_region_end) ?_
  refine goes_ctl T rfl (fun _ => stepG_seq) ?_
  refine goes_ctl T rfl (fun _ => stepG_seq) ?_
  refine goes_ctl T rfl (fun _ => stepG_region) ?_
  simp only [List.size_toArray, List.length_cons, List.length_nil, Nat.reduceAdd, Nat.zero_add, List.range, List.range.loop]
  refine goes_op rfl (by rfl) (by decide) fun _ hRz Kz hKz => ?_
  replace hF := PV.rely hF hRz
  clear hRz
  (skip)
  go_simp
  try (unfold stored; go_simp)
  refine hKz _ _ ⟨?_, ?_⟩
  · (co_quiet T)
  clear hKz Kz
  try walk_nrm
  refine goes_op rfl (by rfl) (by decide) fun _ hRz Kz hKz => ?_
  replace hF := PV.rely hF hRz
  clear hRz
  (skip)
  go_simp
  try (unfold stored; go_simp)
  refine hKz _ _ ⟨?_, ?_⟩
  · (co_quiet T)
  clear hKz Kz
  try walk_nrm
  refine goes_ctl T rfl (fun _ => stepG_region_end) ?_
  cases t with
  | true =>
    refine goes_ctl T rfl (fun _ => (stepG_cond (t := true) rfl)) ?_
    simp only [if_true]
    refine goes_ctl T rfl (fun _ => stepG_seq) ?_
    refine goes_ctl T rfl (fun _ => stepG_region) ?_
    simp only [List.size_toArray, List.length_cons, List.length_nil, Nat.reduceAdd, Nat.zero_add, List.range, List.range.loop]
    refine goes_op rfl (by rfl) (by decide) fun _ hRz Kz hKz => ?_
    replace hF := PV.rely hF hRz
    clear hRz
    (have hc := hF.cellOld (j := 0) hvb rfl)
    go_simp
    try (unfold stored; go_simp)
    refine hKz _ _ ⟨?_, ?_⟩
    · (refine ds_read ?_; co_evs (exact evL_cell (hS'.not hvb (by simp [kindOf])) (by rw [hF.size]; exact lt_of_get hvb)))
    clear hKz Kz
    try walk_nrm
    refine goes_op rfl (by rfl) (by decide) fun _ hRz Kz hKz => ?_
    replace hF := PV.rely hF hRz
    clear hRz
    (skip)
    go_simp
    try (unfold stored; go_simp)
    refine hKz _ _ ⟨?_, ?_⟩
    · (co_quiet T)
    clear hKz Kz
    try walk_nrm
    refine goes_op rfl (by rfl) (by decide) fun _ hRz Kz hKz => ?_
    replace hF := PV.rely hF hRz
    clear hRz
    (skip)
    go_simp
    try (unfold stored; go_simp)
    refine hKz _ _ ⟨?_, ?_⟩
    · (co_quiet T)
    clear hKz Kz
    try walk_nrm
    refine goes_ctl T rfl (fun _ => stepG_region_end) ?_
    refine goes_ctl T rfl (fun _ => stepG_ret') ?_
    refine goes_ctl T rfl (fun w => stepG_leave (v := .tuple #[lv, .int .i64 4]) rfl rfl Tryz.func97 (results_tmp2 (t := 4) (u := 5) (by rfl) _ _ _) (events_results_tmp2 (t := 4) (u := 5) (by rfl) _ _)) ?_
    exact EA.stop (hnext _ _ _ ⟨v', sent, lv, rfl, hout.heap (PV.same hF)⟩)
  | false =>
    refine goes_ctl T rfl (fun _ => (stepG_cond (t := false) rfl)) ?_
    simp only [Bool.false_eq_true, if_false]
    refine goes_ctl T rfl (fun _ => stepG_skip) ?_
    refine goes_ctl T rfl (fun _ => stepG_seq) ?_
    refine goes_ctl T rfl (fun _ => stepG_region) ?_
    simp only [List.size_toArray, List.length_cons, List.length_nil, Nat.reduceAdd, Nat.zero_add, List.range, List.range.loop]
    refine goes_op rfl (by rfl) (by decide) fun _ hRz Kz hKz => ?_
    replace hF := PV.rely hF hRz
    clear hRz
    (have hc := hF.cellOld (j := 0) hvb rfl)
    go_simp
    try (unfold stored; go_simp)
    refine hKz _ _ ⟨?_, ?_⟩
    · (refine ds_read ?_; co_evs (exact evL_cell (hS'.not hvb (by simp [kindOf])) (by rw [hF.size]; exact lt_of_get hvb)))
    clear hKz Kz
    try walk_nrm
    refine goes_op rfl (by rfl) (by decide) fun _ hRz Kz hKz => ?_
    replace hF := PV.rely hF hRz
    clear hRz
    (skip)
    go_simp
    try (unfold stored; go_simp)
    refine hKz _ _ ⟨?_, ?_⟩
    · (co_quiet T)
    clear hKz Kz
    try walk_nrm
    refine goes_op rfl (by rfl) (by decide) fun _ hRz Kz hKz => ?_
    replace hF := PV.rely hF hRz
    clear hRz
    (skip)
    go_simp
    try (unfold stored; go_simp)
    refine hKz _ _ ⟨?_, ?_⟩
    · (co_quiet T)
    clear hKz Kz
    try walk_nrm
    refine goes_ctl T rfl (fun _ => stepG_region_end) ?_
    refine goes_ctl T rfl (fun _ => stepG_ret') ?_
    refine goes_ctl T rfl (fun w => stepG_leave (v := .tuple #[lv, .int .i64 0]) rfl rfl Tryz.func97 (results_tmp2 (t := 4) (u := 5) (by rfl) _ _ _) (events_results_tmp2 (t := 4) (u := 5) (by rfl) _ _)) ?_
    exact EA.stop (hnext _ _ _ ⟨v', sent, lv, rfl, hout.heap (PV.same hF)⟩)

end
end Go.Proofs.YtlghcldiboecoaaGreatDoor.Cu

/- Byte by byte: how bytes are cut into bodies does not hang on the pieces. -/
set_option maxRecDepth 100000
namespace Go.Proofs.YtlghcldiboecoaaGreatDoor.Cu
open Go Go.Conc Go.Pair Go.RowKit

def runB : List UInt8 → List UInt8 → List (List UInt8) × List UInt8 × Bool
  | p, [] => ([], p, false)
  | p, c :: bs => if 1000 < lenOf (p ++ [c]) then ([], [], true) else if missing (p ++ [c]) = 0 then (((p ++ [c]).drop 4) :: (runB [] bs).1, (runB [] bs).2) else runB (p ++ [c]) bs

theorem lenOf_app {p xs : List UInt8} (h : 4 ≤ p.length) : lenOf (p ++ xs) = lenOf p := by
  unfold lenOf
  rw [if_neg (by simp; omega), if_neg (by omega), List.take_append_of_le_length h]

theorem runB_round : ∀ (xs ys p : List UInt8), OkP p → (xs.length : Int) ≤ missing p → xs ≠ [] →
    runB p (xs ++ ys) = if 1000 < lenOf (p ++ xs) then ([], [], true) else if missing (p ++ xs) = 0 then (((p ++ xs).drop 4) :: (runB [] ys).1, (runB [] ys).2) else runB (p ++ xs) ys
  | [], ys, p, _, _, h => absurd rfl h
  | [c], ys, p, hp, hm, _ => rfl
  | c :: d :: xs, ys, p, hp, hm, _ => by
    have hm' : ((xs.length : Int) + 2) ≤ missing p := by simpa using (by simp at hm; omega : ((xs.length : Int) + 2) ≤ missing p)
    have hml := missing_lenOf p
    have hl1 : lenOf (p ++ [c]) ≤ 1000 := by
      by_cases h4 : p.length < 4
      · rw [if_pos h4] at hml
        unfold lenOf
        rw [if_pos (by simp; omega)]
        omega
      · rw [lenOf_app (by omega)]
        exact hp.len
    have hm1 : missing (p ++ [c]) = missing p - 1 := by
      rw [missing_lenOf, hml]
      by_cases h4 : p.length < 4
      · rw [if_pos h4] at hml ⊢
        rw [if_pos (by simp; omega)]
        simp
        omega
      · rw [if_neg h4, if_neg (by simp; omega), lenOf_app (by omega)]
        simp
        omega
    have hok : OkP (p ++ [c]) := ⟨by omega, hl1⟩
    have ih := runB_round (d :: xs) ys (p ++ [c]) hok (by rw [hm1]; simp; omega) (by simp)
    rw [List.append_assoc] at ih
    show (if 1000 < lenOf (p ++ [c]) then _ else if missing (p ++ [c]) = 0 then _ else runB (p ++ [c]) (d :: xs ++ ys)) = _
    rw [if_neg (by omega), if_neg (by omega)]
    exact ih

theorem runB_next {p bs : List UInt8} (hp : OkP p) (hb : bs ≠ []) :
    runB p bs = if 1000 < lenOf (nextP p bs) then ([], [], true) else if missing (nextP p bs) = 0 then (((nextP p bs).drop 4) :: (runB [] (bs.drop (nn p bs))).1, (runB [] (bs.drop (nn p bs))).2) else runB (nextP p bs) (bs.drop (nn p bs)) := by
  have h0 := nn_pos hp hb
  have h1 := nn_le p bs
  have h := runB_round (bs.take (nn p bs)) (bs.drop (nn p bs)) p hp (by have := nn_miss (bs := bs) hp; rw [List.length_take, Nat.min_eq_left h1]; exact this) (by intro e; have := congrArg List.length e; rw [List.length_take, Nat.min_eq_left h1] at this; simp at this; omega)
  rw [List.take_append_drop] at h
  exact h

theorem Cuts.run {p bs : List UInt8} {bodies : List (List UInt8)} {q : List UInt8} {t : Bool} (h : Cuts p bs bodies q t) (hp : OkP p) : runB p bs = (bodies, q, t) := by
  induction h with
  | done p => rfl
  | long hb hl => rw [runB_next hp hb, if_pos hl]
  | body hb hl hm _ ih => rw [runB_next hp hb, if_neg (by omega), if_pos hm, ih okP_nil]
  | more hb hl hm _ ih => rw [runB_next hp hb, if_neg (by omega), if_neg hm]; exact ih (nextP_ok hp hl hm)

theorem runB_app : ∀ (a b p : List UInt8), runB p (a ++ b) = if (runB p a).2.2 then (runB p a) else ((runB p a).1 ++ (runB (runB p a).2.1 b).1, (runB (runB p a).2.1 b).2)
  | [], b, p => by simp [runB]
  | c :: a, b, p => by
    rw [List.cons_append]
    simp only [runB]
    by_cases h1 : 1000 < lenOf (p ++ [c])
    · simp [h1]
    · by_cases h2 : missing (p ++ [c]) = 0
      · simp only [if_neg h1, if_pos h2]
        rw [runB_app a b []]
        by_cases h3 : (runB [] a).2.2 = true
        · simp [h3]
        · simp [h3]
      · simp only [if_neg h1, if_neg h2]
        exact runB_app a b (p ++ [c])

theorem runB_shut : ∀ (a p : List UInt8), (runB p a).2.2 = true → (runB p a).2.1 = []
  | [], p, h => by simp [runB] at h
  | c :: a, p, h => by
    simp only [runB] at h ⊢
    by_cases h1 : 1000 < lenOf (p ++ [c])
    · simp [h1]
    · by_cases h2 : missing (p ++ [c]) = 0
      · simp only [if_neg h1, if_pos h2] at h ⊢
        exact runB_shut a [] h
      · simp only [if_neg h1, if_neg h2] at h ⊢
        exact runB_shut a _ h

def feedB (p : List UInt8) (tl : Bool) (bs : List UInt8) : List (List UInt8) × List UInt8 × Bool := if tl then ([], p, true) else runB p bs

theorem Feeds.run {p : List UInt8} {tl : Bool} {bs : List UInt8} {bodies : List (List UInt8)} {q : List UInt8} {t : Bool} (h : Feeds p tl bs bodies q t) (hp : OkP p) : feedB p tl bs = (bodies, q, t) := by
  unfold Feeds at h
  unfold feedB
  cases tl with
  | true => simp at h ⊢; obtain ⟨rfl, rfl, rfl⟩ := h; exact ⟨rfl, rfl, rfl⟩
  | false => simp at h ⊢; exact h.run hp

theorem feeds_any' (p : List UInt8) (tl : Bool) (bs : List UInt8) (hp : OkP p) : ∃ bodies q t, Feeds p tl bs bodies q t := by
  cases tl with
  | true => exact ⟨[], p, true, rfl, rfl, rfl⟩
  | false => exact cuts_any bs.length p bs (Nat.le_refl _) hp

def rf : Nat → List UInt8 → List (List UInt8) × Bool
  | 0, _ => ([], true)
  | n + 1, b => if b.length < 4 then ([], true) else if 1000 < uns (b.take 4) then ([], false) else if b.length - 4 < uns (b.take 4) then ([], true) else
    ((b.drop 4).take (uns (b.take 4)) :: (rf n (b.drop (4 + uns (b.take 4)))).1, (rf n (b.drop (4 + uns (b.take 4)))).2)

theorem runB_rf : ∀ (n : Nat) (b : List UInt8), b.length ≤ n → (runB [] b).1 = (rf n b).1 ∧ (runB [] b).2.2 = !(rf n b).2
  | 0, b, h => by
    obtain rfl : b = [] := by cases b with | nil => rfl | cons x b => simp at h
    exact ⟨rfl, rfl⟩
  | n + 1, b, h => by
    unfold rf
    by_cases h4 : b.length < 4
    · rw [if_pos h4]
      cases b with
      | nil => exact ⟨rfl, rfl⟩
      | cons c b =>
        have hl : lenOf (c :: b) = 0 := by unfold lenOf; rw [if_pos h4]
        have hm := missing_lenOf (c :: b)
        rw [if_pos h4] at hm
        have := runB_round (c :: b) [] [] okP_nil (by rw [missing_lenOf]; simp; simp at h4; omega) (by simp)
        rw [List.append_nil, List.nil_append, if_neg (by omega), if_neg (by omega)] at this
        rw [this]
        exact ⟨rfl, rfl⟩
    · rw [if_neg h4]
      have hlen : (b.take 4).length = 4 := by rw [List.length_take]; omega
      have hl : lenOf (b.take 4) = uns (b.take 4) := by unfold lenOf; rw [if_neg (by omega), List.take_take, Nat.min_self]
      have hm := missing_lenOf (b.take 4)
      rw [if_neg (by omega), hl, hlen] at hm
      have h1 := runB_round (b.take 4) (b.drop 4) [] okP_nil (by rw [missing_lenOf]; simp; omega) (by intro e; rw [e] at hlen; simp at hlen)
      rw [List.take_append_drop, List.nil_append, hl] at h1
      by_cases hk : 1000 < uns (b.take 4)
      · rw [if_pos hk] at h1 ⊢
        rw [h1]
        exact ⟨rfl, rfl⟩
      · rw [if_neg hk] at h1 ⊢
        have hd4 : (b.take 4).drop 4 = [] := by rw [List.drop_eq_nil_iff]; omega
        by_cases h0 : uns (b.take 4) = 0
        · rw [if_pos (by omega), hd4] at h1
          rw [if_neg (by omega), h0]
          have ih := runB_rf n (b.drop (4 + 0)) (by simp; omega)
          rw [h1]
          simp only [Nat.add_zero] at ih ⊢
          refine ⟨by rw [ih.1]; simp, ih.2⟩
        · rw [if_neg (by omega)] at h1
          have hok : OkP (b.take 4) := ⟨by omega, by omega⟩
          by_cases hs : b.length - 4 < uns (b.take 4)
          · rw [if_pos hs]
            by_cases he : b.drop 4 = []
            · rw [h1, he]; exact ⟨rfl, rfl⟩
            · have hr := runB_round (b.drop 4) [] (b.take 4) hok (by rw [List.length_drop]; omega) he
              have hm2 := missing_lenOf b
              have hlb : lenOf b = uns (b.take 4) := by unfold lenOf; rw [if_neg h4]
              rw [if_neg h4, hlb] at hm2
              rw [List.append_nil, List.take_append_drop, if_neg (by omega), if_neg (by omega)] at hr
              rw [h1, hr]
              exact ⟨rfl, rfl⟩
          · rw [if_neg hs]
            have hr := runB_round ((b.drop 4).take (uns (b.take 4))) (b.drop (4 + uns (b.take 4))) (b.take 4) hok (by rw [List.length_take, List.length_drop]; omega) (by intro e; have := congrArg List.length e; rw [List.length_take, List.length_drop] at this; simp at this; omega)
            have hcat : b.take 4 ++ (b.drop 4).take (uns (b.take 4)) = b.take (4 + uns (b.take 4)) := by rw [List.take_add]
            have hrest : (b.drop 4).take (uns (b.take 4)) ++ b.drop (4 + uns (b.take 4)) = b.drop 4 := by rw [← List.drop_drop]; exact List.take_append_drop _ _
            have hlt : (b.take (4 + uns (b.take 4))).length = 4 + uns (b.take 4) := by rw [List.length_take]; omega
            have hlb : lenOf (b.take (4 + uns (b.take 4))) = uns (b.take 4) := by
              unfold lenOf
              rw [if_neg (by omega), List.take_take]
              congr 2
              omega
            have hm2 := missing_lenOf (b.take (4 + uns (b.take 4)))
            rw [if_neg (by omega), hlb, hlt] at hm2
            rw [hrest, hcat, hlb, if_neg hk, if_pos (by omega)] at hr
            have ih := runB_rf n (b.drop (4 + uns (b.take 4))) (by rw [List.length_drop]; omega)
            rw [h1, hr]
            refine ⟨?_, ih.2⟩
            show _ :: _ = _ :: _
            rw [ih.1]
            congr 1
            rw [List.drop_take]
            congr 1
            omega

end Go.Proofs.YtlghcldiboecoaaGreatDoor.Cu

/- The document's answer: the number that bytes stand for, the first bytes of a list. -/
namespace Go.Proofs.YtlghcldiboecoaaGreatDoor
open Go.RowKit

/-- The number that at most eight bytes stand for. -/
def numI (l : List UInt8) : Int := if l.length = 4 ∧ 2147483648 ≤ wrap64 (Orch.uns l : Int) then wrap64 (Orch.uns l : Int) - 4294967296 else wrap64 (Orch.uns l : Int)

theorem wrap_in (z : Int) : -9223372036854775808 ≤ wrap64 z ∧ wrap64 z ≤ 9223372036854775807 := by
  unfold wrap64
  omega

theorem numI_4 {l : List UInt8} (h : l.length = 4) : numI l = Orch.sgn l := by
  have h1 := Orch.uns_lt l
  rw [h] at h1
  unfold numI Orch.sgn
  have h2 : wrap64 (Orch.uns l : Int) = (Orch.uns l : Int) := by unfold wrap64; omega
  rw [h2, h]
  by_cases h3 : 256 ^ 4 ≤ 2 * Orch.uns l
  · rw [if_pos (by omega), if_pos h3]; rfl
  · rw [if_neg (by omega), if_neg h3]

theorem numI_in (l : List UInt8) : -9223372036854775808 ≤ numI l ∧ numI l ≤ 9223372036854775807 := by
  have := wrap_in (Orch.uns l : Int)
  unfold numI
  split <;> omega

set_option maxHeartbeats 1000000 in
theorem numberOf_any (w : World) (b off n cap : Nat) (l : List UInt8) (hn : l.length = n) (hl : n ≤ 8) (hb : Bytes w b off l) (hc : n ≤ cap) :
    Calls Tryz.prog 144 #[.slice (some ⟨b, off, none⟩) n cap] w fun e w' => e = .returned (.int .i64 (numI l)) ∧ w' = w := by
  subst hn
  go_enter Tryz.func144, Tryz.ntmps144
  go_wp2
  go_loop [3, 4] (fun x i => ∃ k : Nat, k ≤ l.length ∧ i = .int .i64 k ∧ x = .int .i64 (wrap64 (Orch.uns (l.take k) : Int))) (fun _ i => l.length - (intOf i).toNat)
  case atStart => exact ⟨0, Nat.zero_le _, rfl, val_int (by simp [Orch.uns, wrap64])⟩
  case round =>
    obtain ⟨k, hk, rfl, rfl⟩ := hrel
    by_cases hlt : k < l.length
    · have hc := hb k hlt
      have HS : Hid (Orch.uns (l.take (k + 1)) = Orch.uns (l.take k) * 256 + l[k].toNat) := uns_snoc l k hlt
      have hc8 : l[k].toNat < 256 := UInt8.toNat_lt _
      have HY : Hid (wrap64 (wrap64 (wrap64 (Orch.uns (l.take k) : Int) * 256) + (l[k].toNat : Int)) = wrap64 (Orch.uns (l.take (k + 1)) : Int)) := by
        show _ = _
        rw [HS.out]
        unfold wrap64
        omega
      generalize wrap64 (Orch.uns (l.take k) : Int) = Y at *
      go_wp2
      go_round
      case rel => exact ⟨k + 1, by omega, by go_num, val_int HY.out⟩
      case measure => first | (simp [intOf]; done) | (simp [intOf]; omega)
    · have hke : l.take k = l := List.take_of_length_le (by omega)
      rw [hke]
      have HN : Hid (numI l = if l.length = 4 ∧ 2147483648 ≤ wrap64 (Orch.uns l : Int) then wrap64 (Orch.uns l : Int) - 4294967296 else wrap64 (Orch.uns l : Int)) := rfl
      have hw := wrap_in (Orch.uns l : Int)
      generalize wrap64 (Orch.uns l : Int) = Y at *
      have hltz : ¬ (k : Int) < (l.length : Int) := by omega
      clear hb
      by_cases h4 : l.length = 4
      · have h4z : ((l.length : Int) == 4) = true := by rw [beq_iff_eq]; omega
        by_cases hh : 2147483648 ≤ Y
        · have hg : Y ≥ 2147483648 := hh
          have hd : decide (Y ≥ 2147483648) = true := decide_eq_true hg
          go_wp2
          all_goals go_ret
          all_goals exact ⟨ret_int (by rw [HN.out, if_pos ⟨h4, hh⟩]), rfl⟩
        · have hg : ¬ (Y ≥ 2147483648) := hh
          have hd : decide (Y ≥ 2147483648) = false := decide_eq_false hg
          go_wp2
          all_goals go_ret
          all_goals exact ⟨ret_int (by rw [HN.out, if_neg (fun h => by have := h.2; omega)]), rfl⟩
      · have h4z : ((l.length : Int) == 4) = false := by rw [beq_eq_false_iff_ne]; omega
        go_wp2
        all_goals go_ret
        all_goals exact ⟨ret_int (by rw [HN.out, if_neg (fun h => h4 h.1)]), rfl⟩

end Go.Proofs.YtlghcldiboecoaaGreatDoor
