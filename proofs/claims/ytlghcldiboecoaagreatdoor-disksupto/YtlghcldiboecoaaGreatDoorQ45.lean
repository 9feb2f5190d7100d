/- A reader was fed: its bodies are kept, the loan is looked at: the caller's world stands. -/
import Derived.Test.YtlghcldiboecoaaGreatDoorQ44
set_option linter.unusedVariables false
namespace Go.Proofs.YtlghcldiboecoaaGreatDoor
open Go.RowKit Go.Pair

theorem row_bc {v : World} {g : Nat} {b : List UInt8} (hb : b.length ≤ 1500) (h : v.heap[g]? = some (.cells (Cu.bc b).toArray 5)) : v.ownsRow 0 5 1 (.slice (some ⟨g, 0, none⟩) b.length b.length) b.length (Cu.bc b) := by
  have hl : (Cu.bc b).length = b.length := by simp [Cu.bc]
  have : RowIs v 5 (Cu.bc b) (.slice (some ⟨g, 0, none⟩) b.length b.length) := .inr ⟨g, b.length, _, by rw [hl], by omega, h, by simp [hl], fun i hi => by simp [List.getElem?_eq_getElem hi], by unfold maxLen; omega⟩
  have := RowIs.row this
  rwa [hl] at this

set_option maxHeartbeats 1000000 in
theorem Mdl.fin {v0 v4 : World} {L WB : Nat} {S : Nat → Prop} {x0 x1 : Value} {ra : Option Addr} {rc : Nat} {rds : List Rd} {tot tot' N M i : Nat} {r : Rd} {q : List UInt8} {t : Bool} {pv' : Value} {sent : List (List UInt8 × Value)} {lv : Value} {b : Nat} {s : ByteArray} {O : Nat} {ob : Array Value} {F G : Nat} {av' : Value} {all' : List UInt8} {told' : Nat}
    (h0 : Rw v0 L WB S x0 x1 ra rc rds tot N M) (hm : Mdl v4 L WB S x0 x1 ra rc rds tot N M i r q t pv' sent lv b s O ob F) (hs : Msl v0 S rds i r pv' sent lv b O F) (hF : v0.heap.size ≤ F)
    (hFG : F ≤ G) (hav : ∀ g, av'.ownBlock = some g → r.av.ownBlock = some g ∨ G ≤ g) (hGl : ∀ g, lv.ownBlock = some g → g < G) (hGp : ∀ g, pv'.ownBlock = some g → g < G) (hGm : ∀ x, x ∈ sent → ∀ g, x.2.ownBlock = some g → g < G)
    (hQ : v4.heap[r.Q]? = some (.cells #[av', .int .i64 told', .bool t] 177)) (hall : v4.ownsRow 0 5 1 av' all'.length (bcells all')) (tw : Twins all' q t told') (hlen : all'.length ≤ tot') (htot : tot ≤ tot')
    (hN : N + sent.length ≤ 1000000000) (hM : M ≤ 1000000000) (hk : sent.length ≤ 2000000) (hlb : ∀ x, x ∈ sent → x.1.length ≤ 1500) (hs4 : s.size ≤ 4000000) :
    Calls Tryz.prog 100 #[.pointer (some ⟨WB, 4, none⟩), lv] v4 fun e v5 => e = .returned (.tuple #[]) ∧ v5.heap[O]? = some (.cells ob 76) ∧
      Calls Tryz.prog 92 #[.slice (some ⟨b, 0, none⟩) s.size (s.size + 3), .string s] v5 fun e v6 => e = .returned (.bool true) ∧ (∃ S' rds', rds'.length = rds.length ∧ Rw v6 L WB S' x0 x1 ra rc rds' tot' (N + sent.length) (M + 1)) ∧ Los L WB v4 v6 := by
  have hL := h0.le
  have hwl := h0.wl
  have hA0 := h0.rd i r hs.hr
  obtain ⟨_, _, _, _, _, _, hbk0⟩ := h0.bk
  obtain ⟨ba, bc, flat, da, dc, flad, hbk⟩ := hm.bk
  have hsl := hbk0.sl
  have hlst := RowIs.row hm.list
  obtain ⟨la, lc, hlv⟩ := own_shapeZ hlst
  have hxl : (sent.map (·.2)).length = sent.length := by simp
  rw [hxl] at hlst hlv
  subst hlv
  have hmx : ∀ x, x ∈ sent.map (·.2) → ∃ y, y ∈ sent ∧ y.2 = x := fun x hx => by
    obtain ⟨y, hy, rfl⟩ := List.mem_map.1 hx
    exact ⟨y, hy, rfl⟩
  have hme : ∀ x, x ∈ sent.map (·.2) → ∀ g, x.ownBlock = some g → F ≤ g ∧ g < G ∧ pv'.ownBlock ≠ some g := fun x hx g hg => by
    obtain ⟨y, hy, rfl⟩ := hmx x hx
    obtain ⟨g', k1, k2, k3, k4⟩ := hm.msg y hy
    have hg' := hGm y hy g hg
    rw [k2] at hg
    cases hg
    exact ⟨k1, hg', k4⟩
  refine (hbk.kd sent.length hk hN hM la lc (sent.map (·.2)) hlst (fun g hg hS => ?_) (fun j x hx => ?_) (fun j k x y hx hy hjk => ?_)).mono ?_
  · have := hs.lown g hg
    have := hsl g hS
    omega
  · obtain ⟨y, hy, rfl⟩ := hmx x (List.mem_of_getElem? hx)
    obtain ⟨g, k1, k2, k3, k4⟩ := hm.msg y hy
    refine ⟨g, _, _, Cu.bc y.1, k2, hlb y hy, ?_, fun hS => by have := hsl g hS; omega⟩
    rw [k2]
    exact row_bc (hlb y hy) k3
  · have hp : (sent.map (·.2)).Pairwise fun x y => x.ownBlock ≠ y.ownBlock := List.pairwise_map.2 hs.dis
    rw [List.pairwise_iff_getElem] at hp
    obtain ⟨hj, rfl⟩ := List.getElem?_eq_some_iff.1 hx
    obtain ⟨hk', rfl⟩ := List.getElem?_eq_some_iff.1 hy
    rcases Nat.lt_or_gt_of_ne hjk with h | h
    · exact hp j k hj hk' h
    · exact (hp k j hk' hj h).symm
  rintro e v5 ⟨rfl, S', N', ba', bc', flat', da', dc', flad', rfl, hb5, G2⟩
  have hch : ∀ g, ((Value.slice la sent.length lc).ownBlock = some g ∨ ∃ x, x ∈ sent.map (·.2) ∧ x.ownBlock = some g) → F ≤ g ∧ g < G ∧ pv'.ownBlock ≠ some g := fun g hg => by
    rcases hg with hg | ⟨x, hx, hg⟩
    · refine ⟨hs.lown g hg, hGl g hg, fun e => ?_⟩
      obtain ⟨c1, t1⟩ := own_type hlst hg
      obtain ⟨c2, t2⟩ := own_type (RowIs.row hm.part) e
      rw [t1] at t2
      cases t2
    · exact hme x hx g hg
  have hO5 := (G2.cells hm.op (by have := hs.o0; omega) (by decide) (by decide) (fun h => by have := (hch _ h).1; have := hs.oF; omega)).trans hm.op
  have hb5' := (G2.cells hm.lent (by have := hs.b0; omega) (by decide) (by decide) (fun h => by have := (hch _ h).1; have := hs.bF; omega)).trans hm.lent
  refine ⟨rfl, hO5, (wholeBytes_any v5 s b hs4 hb5').mono ?_⟩
  rintro e v6 ⟨rfl, hg6⟩
  have hbl := ltOf hm.lent
  have hbS : ¬ S' b := fun h => by
    rcases G2.new b h with h | h | h
    · have := hsl b h; have := hs.b0; omega
    · have := (hch b h).1; have := hs.bF; omega
    · omega
  have h65 : ∀ g, g < v5.heap.size → g ≠ b → v6.heap[g]? = v5.heap[g]? := fun g hg hn => hg6.block g hg (fun e => hn (by cases e; rfl))
  have hgo : ∀ (g : Nat) cs ty, v4.heap[g]? = some (.cells cs ty) → g ≠ WB → ty ≠ 120 → ty ≠ 124 → ¬ ((Value.slice la sent.length lc).ownBlock = some g ∨ ∃ x, x ∈ sent.map (·.2) ∧ x.ownBlock = some g) → g ≠ b → v6.heap[g]? = v4.heap[g]? := fun g cs ty hg h1 h2 h3 h4 h5 =>
    (h65 g (Nat.lt_of_lt_of_le (ltOf hg) G2.size) h5).trans (G2.cells hg h1 h2 h3 h4)
  have hlow : ∀ (g : Nat) cs ty, v4.heap[g]? = some (.cells cs ty) → g ≠ WB → ty ≠ 120 → ty ≠ 124 → g < v0.heap.size → v6.heap[g]? = v4.heap[g]? := fun g cs ty hg h1 h2 h3 h4 =>
    hgo g cs ty hg h1 h2 h3 (fun h => by have := (hch g h).1; omega) (by have := hs.b0; omega)
  have hb6 := hb5.keep (W' := v6) hg6.size (fun j cs ty hj hty => h65 j (ltOf hj) (fun e => by
    subst e
    rw [hb5'] at hj
    cases hj
    rcases hty with h | h | h | h
    · cases h
    · cases h
    · cases h
    · exact hbS h.1))
  have hpv : ∀ g, pv'.ownBlock = some g → (r.pv.ownBlock = some g ∧ g < v0.heap.size) ∨ F ≤ g := fun g hg => (hs.own g hg).imp (fun h => ⟨h, hA0.lt (.inr (.inr (.inl h)))⟩) id
  have hav' : ∀ g, av'.ownBlock = some g → (r.av.ownBlock = some g ∧ g < v0.heap.size) ∨ G ≤ g := fun g hg => (hav g hg).imp (fun h => ⟨h, hA0.lt (.inr (.inr (.inr h)))⟩) id
  have hpc : ∀ g, pv'.ownBlock = some g → ∃ cs, v4.heap[g]? = some (.cells cs 5) := fun g hg => own_type (RowIs.row hm.part) hg
  have hac : ∀ g, av'.ownBlock = some g → ∃ cs, v4.heap[g]? = some (.cells cs 5) := fun g hg => own_type hall hg
  have hWn : ∀ (g : Nat) cs, v4.heap[g]? = some (.cells cs 5) → g ≠ WB := fun g cs hg e => by
    have := hbk.blk
    rw [← e, hg] at this
    cases this
  have hchG : ∀ g, ((Value.slice la sent.length lc).ownBlock = some g ∨ ∃ x, x ∈ sent.map (·.2) ∧ x.ownBlock = some g) → g < G := fun g h => (hch g h).2.1
  have hRQ : ∀ g, (g = r.R ∨ g = r.Q) → r.blk g ∧ g < v0.heap.size := fun g h => by
    have hb : r.blk g := by rcases h with h | h; exact .inl h; exact .inr (.inl h)
    exact ⟨hb, hA0.lt hb⟩
  have hAt : (Rd.mk r.R r.Q pv' av' q all' t told').At v6 tot' := by
    refine ⟨(hlow _ _ _ hm.rR (fun e => ?_) (by decide) (by decide) (hRQ _ (.inl rfl)).2).trans hm.rR, ?_, (hlow _ _ _ hQ (fun e => ?_) (by decide) (by decide) (hRQ _ (.inr rfl)).2).trans hQ, own_sameS hall (fun g cs hg ht => ?_), tw, hlen, fun g hg hg' => ?_⟩
    · have := (h0.sep i r hs.hr r.R (.inl rfl)).2
      omega
    · rcases hm.part with h | ⟨g, c, cells, h1, h2, h3, h4⟩
      · exact .inl h
      · have hg : pv'.ownBlock = some g := by rw [h1]; rfl
        refine .inr ⟨g, c, cells, h1, h2, (hgo g _ _ h3 (hWn g _ h3) (by decide) (by decide) (fun h => (hch g h).2.2 hg) (fun e => ?_)).trans h3, h4⟩
        rcases hpv g hg with h | h
        · have := hs.b0; omega
        · have := hs.bF; omega
    · have := (h0.sep i r hs.hr r.Q (.inr (.inl rfl))).2
      omega
    · rcases hav' g hg with ⟨_, h⟩ | h
      · exact hlow g cs _ ht (hWn g _ ht) (by decide) (by decide) h
      · refine hgo g cs _ ht (hWn g _ ht) (by decide) (by decide) (fun h' => by have := hchG g h'; omega) (fun e => ?_)
        have := hs.bF
        omega
    · rcases hpv g hg with ⟨h1, h2⟩ | h1 <;> rcases hav' g hg' with ⟨h3, h4⟩ | h3
      · exact hA0.apart g h1 h3
      · have := hGp g hg; omega
      · omega
      · have := hGp g hg; omega
  have hset : ∀ (j : Nat) (r' : Rd), (rds.set i ⟨r.R, r.Q, pv', av', q, all', t, told'⟩)[j]? = some r' → (j = i ∧ r' = ⟨r.R, r.Q, pv', av', q, all', t, told'⟩) ∨ (j ≠ i ∧ rds[j]? = some r') := fun j r' h => by
    by_cases hj : i = j
    · subst hj
      rw [List.getElem?_set_self (List.getElem?_eq_some_iff.1 hs.hr).1] at h
      exact .inl ⟨rfl, (Option.some.inj h).symm⟩
    · rw [List.getElem?_set_ne hj] at h
      exact .inr ⟨fun e => hj e.symm, h⟩
  have hblk : ∀ g, (Rd.mk r.R r.Q pv' av' q all' t told').blk g → r.blk g ∧ g < v0.heap.size ∨ (F ≤ g ∧ pv'.ownBlock = some g) ∨ (G ≤ g ∧ av'.ownBlock = some g) := fun g hg => by
    rcases hg with h | h | h | h
    · exact .inl (hRQ g (.inl h))
    · exact .inl (hRQ g (.inr h))
    · rcases hpv g h with ⟨h1, h2⟩ | h1
      · exact .inl ⟨.inr (.inr (.inl h1)), h2⟩
      · exact .inr (.inl ⟨h1, h⟩)
    · rcases hav' g h with ⟨h1, h2⟩ | h1
      · exact .inl ⟨.inr (.inr (.inr h1)), h2⟩
      · exact .inr (.inr ⟨h1, h⟩)
  have hother : ∀ (j : Nat) (r' : Rd), rds[j]? = some r' → j ≠ i → ∀ g, r'.blk g → ¬ (Rd.mk r.R r.Q pv' av' q all' t told').blk g := fun j r' hj hne g hg hg' => by
    have hlt := (h0.rd j r' hj).lt hg
    rcases hblk g hg' with ⟨h1, _⟩ | ⟨h1, _⟩ | ⟨h1, _⟩
    · exact h0.dis j i r' r hj hs.hr hne g hg h1
    · omega
    · omega
  refine ⟨rfl, ⟨S', rds.set i ⟨r.R, r.Q, pv', av', q, all', t, told'⟩, by rw [List.length_set], ⟨⟨ba', bc', flat', da', dc', flad', by rw [List.length_set]; exact hb6⟩, ?_, fun j r' hj => ?_, fun j k r' s' hj hk' hjk g hg hg' => ?_, fun j r' hj g hg => ?_, fun g hg => ?_, hwl⟩⟩, ⟨Nat.le_trans G2.size hg6.size, fun j hj hn => ?_⟩⟩
  · rw [rcells_set (r' := ⟨r.R, r.Q, pv', av', q, all', t, told'⟩) hs.hr rfl rfl, List.length_set]
    refine own_sameS hm.row (fun g cs hg ht => hgo g cs _ ht (fun e => by have := (hm.row.lt g hg).1; omega) (by decide) (by decide) (fun h => ?_) (fun e => ?_))
    · rcases h with h | ⟨x, hx, h⟩
      · obtain ⟨c1, t1⟩ := own_type hlst h
        rw [ht] at t1
        cases t1
      · obtain ⟨y, hy, rfl⟩ := hmx x hx
        obtain ⟨g', k1, k2, k3, k4⟩ := hm.msg y hy
        rw [k2] at h
        cases h
        rw [ht] at k3
        simp only [Option.some.injEq, Obj.cells.injEq] at k3
        exact absurd k3.2.1 (by decide)
    · rw [e, hm.lent] at ht
      simp only [Option.some.injEq, Obj.cells.injEq] at ht
      exact absurd ht.2.1 (by decide)
  · rcases hset j r' hj with ⟨rfl, rfl⟩ | ⟨hne, hj'⟩
    · exact hAt
    · exact (hm.oth j r' hj' hne).keep (fun g cs ty hg hc hty => hlow g cs ty hc (fun e => by have := (h0.sep j r' hj' g hg).2; omega) (by rcases hty with rfl | rfl | rfl <;> decide) (by rcases hty with rfl | rfl | rfl <;> decide) ((h0.rd j r' hj').lt hg)) htot
  · rcases hset j r' hj with ⟨rfl, rfl⟩ | ⟨hne, hj'⟩ <;> rcases hset k s' hk' with ⟨rfl, rfl⟩ | ⟨hne', hk''⟩
    · exact hjk rfl
    · exact hother k s' hk'' hne' g hg' hg
    · exact hother j r' hj' hne g hg hg'
    · exact h0.dis j k r' s' hj' hk'' hjk g hg hg'
  · have hold : ∀ (k : Nat) (y : Rd), rds[k]? = some y → y.blk g → ¬ S' g ∧ L ≤ g := fun k y hk' hy => by
      have hlt := (h0.rd k y hk').lt hy
      refine ⟨fun hS => ?_, (h0.sep k y hk' g hy).2⟩
      rcases G2.new g hS with h | h | h
      · exact (h0.sep k y hk' g hy).1 h
      · have := (hch g h).1; omega
      · have := hs.b0; omega
    rcases hset j r' hj with ⟨rfl, rfl⟩ | ⟨hne, hj'⟩
    · rcases hblk g hg with ⟨h1, _⟩ | ⟨h1, h2⟩ | ⟨h1, h2⟩
      · exact hold j r hs.hr h1
      · refine ⟨fun hS => ?_, by omega⟩
        rcases G2.new g hS with h | h | h
        · have := hsl g h; omega
        · exact (hch g h).2.2 h2
        · obtain ⟨c1, t1⟩ := hpc g h2
          have := ltOf t1
          omega
      · refine ⟨fun hS => ?_, by omega⟩
        rcases G2.new g hS with h | h | h
        · have := hsl g h; omega
        · have := hchG g h; omega
        · obtain ⟨c1, t1⟩ := hac g h2
          have := ltOf t1
          omega
    · exact hold j r' hj' hg
  · rcases G2.new g hg with h | h | h
    · exact h0.sL g h
    · have := (hch g h).1; omega
    · have := hs.b0; omega
  · rw [h65 j (by have := G2.size; have := hs.b0; omega) (by have := hs.b0; omega)]
    exact G2.same j (by have := hs.b0; omega) hn (.inl hj) (fun h => by have := (hch j h).1; omega)

end Go.Proofs.YtlghcldiboecoaaGreatDoor

/- The document's reader beside the program's. -/
namespace Go.Proofs.YtlghcldiboecoaaGreatDoor
open Go.RowKit Go.Pair

theorem rf_small : ∀ (n : Nat) (b : List UInt8), (∀ x, x ∈ (rf n b).1 → x.length ≤ 1000)
  | 0, b => by simp [rf]
  | n + 1, b => by
    rw [rf_succ]
    split
    · simp
    · split
      · simp
      · split
        · simp
        · rename_i h1 h2 h3
          intro x hx
          rcases List.mem_cons.1 hx with rfl | hx
          · rw [List.length_take]; omega
          · exact rf_small n _ x hx

theorem cuts_few {p bs : List UInt8} {bodies : List (List UInt8)} {q : List UInt8} {t : Bool} (h : Cu.Cuts p bs bodies q t) (hp : Cu.OkP p) : bodies.length ≤ bs.length := by
  induction h with
  | done p => simp
  | long _ _ => simp
  | @body p bs bodies q t hb hl hm hC ih =>
    have h1 := Cu.nn_pos hp hb
    have h2 := ih Cu.okP_nil
    have h3 := Cu.nn_le p bs
    rw [List.length_drop] at h2
    simp only [List.length_cons]
    omega
  | more hb hl hm hC ih =>
    have h1 := Cu.nn_pos hp hb
    have h2 := ih (Cu.nextP_ok hp hl hm)
    rw [List.length_drop] at h2
    omega

theorem feeds_few {p bs : List UInt8} {tl : Bool} {bodies : List (List UInt8)} {q : List UInt8} {t : Bool} (h : Cu.Feeds p tl bs bodies q t) (hp : Cu.OkP p) : bodies.length ≤ bs.length := by
  cases tl with
  | true =>
    simp only [Cu.Feeds, if_true] at h
    rw [h.1]
    simp
  | false =>
    simp only [Cu.Feeds, Bool.false_eq_true, if_false] at h
    exact cuts_few h hp

/-- Each body that is told is of at most 1000 bytes. -/
theorem feeds_small {r : Rd} {bs : List UInt8} {bodies : List (List UInt8)} {q : List UInt8} {t : Bool} (tw : Twins r.all r.p r.tl r.told) (h : Cu.Feeds r.p r.tl bs bodies q t) : ∀ x, x ∈ bodies → x.length ≤ 1000 := by
  cases htl : r.tl with
  | true =>
    rw [htl] at h
    rw [(Twins.shutFeed (all := r.all) (told := r.told) h).1]
    intro x hx
    cases hx
  | false =>
    rw [htl] at h tw
    obtain ⟨_, h2, _⟩ := tw.feed h
    intro x hx
    rw [← h2] at hx
    exact rf_small _ _ x (List.mem_of_mem_drop hx)

/-- The document's reader is fed the same. -/
theorem ref_fed (V : World) (r : Rd) (g bc : Nat) (bs : List UInt8) (bodies : List (List UInt8)) (q : List UInt8) (t : Bool) (hQ : V.heap[r.Q]? = some (.cells #[r.av, .int .i64 r.told, .bool r.tl] 177)) (hall : V.ownsRow 0 5 1 r.av r.all.length (bcells r.all)) (hb : Bytes V g 0 bs)
    (hlen : r.all.length + bs.length ≤ 1500000) (tw : Twins r.all r.p r.tl r.told) (hC : Cu.Feeds r.p r.tl bs bodies q t) :
    Calls Tryz.prog 98 #[.pointer (some ⟨r.Q, 0, none⟩), .slice (some ⟨g, 0, none⟩) bs.length bc] V fun e v3 => ∃ av' la lc all' told', e = .returned (.tuple #[.slice la bodies.length lc, .int .i64 (if t then 4 else 0)]) ∧ v3.heap[r.Q]? = some (.cells #[av', .int .i64 (told' : Nat), .bool t] 177) ∧
      v3.ownsRow 0 5 1 av' all'.length (bcells all') ∧ Twins all' q t told' ∧ all'.length ≤ r.all.length + bs.length ∧ (∀ g', av'.ownBlock = some g' → r.av.ownBlock = some g' ∨ V.heap.size ≤ g') ∧ ListAt v3 la bodies V.heap.size ∧
      (∀ i, i < V.heap.size → i ≠ r.Q → r.av.ownBlock ≠ some i → v3.heap[i]? = V.heap[i]?) ∧ V.heap.size ≤ v3.heap.size := by
  cases htl : r.tl with
  | true =>
    rw [htl] at hQ tw hC
    obtain ⟨rfl, rfl, rfl⟩ := Twins.shutFeed (all := r.all) (told := r.told) hC
    refine (refFeed_bad V r.Q r.av _ _ hQ).mono ?_
    rintro e v3 ⟨rfl, rfl⟩
    exact ⟨r.av, none, 0, r.all, r.told, rfl, hQ, hall, tw, by omega, fun g' h => .inl h, fun i hi => by simp at hi, fun _ _ _ _ => rfl, Nat.le_refl _⟩
  | false =>
    rw [htl] at hQ tw hC
    obtain ⟨h1, h2, h3, h4⟩ := tw.feed hC
    have hAR : r.av.ownBlock ≠ some r.Q := fun e => by
      obtain ⟨c1, t1⟩ := own_type hall e
      rw [hQ] at t1
      cases t1
    refine (refFeed_any V r.Q g bc r.told r.av r.all bs hQ hall hb hlen hAR h1).mono ?_
    rintro e v3 ⟨v', la, lc, rfl, k1, k2, k3, k4, k5, k6, k7, k8, k9⟩
    have hn : (rf (r.all ++ bs).length (r.all ++ bs)).1.length - r.told = bodies.length := by rw [← h2, List.length_drop]
    rw [h2] at k5
    rw [h3] at k1
    refine ⟨v', la, lc, r.all ++ bs, _, by rw [hn, h3]; cases t <;> rfl, by simpa using k1, k2, h4, by simp, fun g' hg' => ?_, k5, k6, k7⟩
    rcases k4 with h | h
    · exact .inl (h.symm.trans hg')
    · rw [h] at hg'
      cases hg'
      exact .inr (Nat.le_refl _)

theorem bytes_bc {v : World} {g : Nat} {b : List UInt8} (h : v.heap[g]? = some (.cells (Cu.bc b).toArray 5)) : Bytes v g 0 b := fun i hi => by
  rw [Nat.zero_add]
  refine cellOf h ?_
  simp [Cu.bc, hi]

/-- The list that Feed told, as sameBodies reads it. -/
theorem Mdl.told {v : World} {L WB : Nat} {S : Nat → Prop} {x0 x1 : Value} {ra : Option Addr} {rc : Nat} {rds : List Rd} {tot N M i : Nat} {r : Rd} {q : List UInt8} {t : Bool} {pv' : Value} {sent : List (List UInt8 × Value)} {lv : Value} {b : Nat} {s : ByteArray} {O : Nat} {ob : Array Value} {F : Nat}
    (hm : Mdl v L WB S x0 x1 ra rc rds tot N M i r q t pv' sent lv b s O ob F) : ∃ la lc, lv = .slice la sent.length lc ∧ ListAt v la (sent.map (·.1)) 0 := by
  have hlst := RowIs.row hm.list
  obtain ⟨la, lc, hlv⟩ := own_shapeZ hlst
  rw [List.length_map] at hlv hlst
  refine ⟨la, lc, hlv, fun j hj => ?_⟩
  rw [List.length_map] at hj
  subst hlv
  have hx : (sent.map (·.2))[j]? = some sent[j].2 := by simp [hj]
  obtain ⟨g, k1, k2, k3, k4⟩ := hm.msg sent[j] (List.getElem_mem hj)
  rcases hlst.2 with ⟨hz, h0⟩ | ⟨g', cap, cur, hv, _, hg, hcap, _⟩
  · omega
  · cases hv
    have hc := hlst.cells (g := g') rfl j _ hx
    rw [Addr.add_lit, Nat.zero_add, k2] at hc
    refine ⟨g', 0, g, 0, sent[j].1.length, rfl, Nat.zero_le _, ?_, ?_⟩
    · rw [Nat.zero_add, hc]
      simp
    · simpa using bytes_bc k3

end Go.Proofs.YtlghcldiboecoaaGreatDoor
