/- takeElements. -/
import Derived.Test.YtlghcldiboecoaaGreatDoorParseA
import Derived.Test.YtlghcldiboecoaaGreatDoorOwn
set_option linter.unusedVariables false
namespace Go.Proofs.YtlghcldiboecoaaGreatDoor
open Go.RowKit

/-- The lists of a value lie in rows of their own. -/
def OwnV (base : Nat) (w : World) (es : List Orch.V) (lv : Value) : Prop := OwT w base w.heap.size es lv

theorem OwnV.nil (base : Nat) (w : World) : OwnV base w [] (.slice none 0 0) := OwT.nil _ _

theorem own_keep {w w' : World} {base base' : Nat} {e : TypeId} {size : Nat} {v : Value} {n : Nat} {xs : List Value} (h : w.ownsRow base e size v n xs) (hb : base' ≤ base) (hk : ∀ b, base ≤ b → b < w.heap.size → w'.heap[b]? = w.heap[b]?) : w'.ownsRow base' e size v n xs :=
  ⟨h.1, h.2.imp id fun ⟨g, cap, cur, h1, h2, h3, h4⟩ => ⟨g, cap, cur, h1, Nat.le_trans hb h2, (hk g h2 (ltOf h3)).trans h3, h4⟩⟩

theorem OwnV.keep {w w' : World} {base base' : Nat} {es : List Orch.V} {lv : Value} (h : OwnV base w es lv) (hb : base' ≤ base) (hs : w.heap.size ≤ w'.heap.size) (hk : ∀ b, base ≤ b → b < w.heap.size → w'.heap[b]? = w.heap[b]?) : OwnV base' w' es lv :=
  (OwT.congr h hk).mono hb hs

def takeRes (w w' : World) (bv : Value) (l : List UInt8) (e : Ending) : Option (Orch.V × List UInt8) → Prop
  | none => noneEnd e
  | some (v, rest) => ∃ lv rv, e = .returned (.tuple #[vval v lv, rv, .bool true]) ∧ VsAt w' (fun b => w.heap.size ≤ b ∧ b < w'.heap.size) v.l lv ∧ Tail bv l rv rest ∧ OwnV w.heap.size w' v.l lv

def teRes (w w' : World) (bv : Value) (l : List UInt8) (e : Ending) : Option (List Orch.V × List UInt8) → Prop
  | none => noneEnd e
  | some (es, rest) => ∃ lv rv, e = .returned (.tuple #[vv 0 ⟨#[]⟩ lv, rv, .bool true]) ∧ VsAt w' (fun b => w.heap.size ≤ b ∧ b < w'.heap.size) es lv ∧ Tail bv l rv rest ∧ OwnV w.heap.size w' es lv

def TkSaid (valid : ByteArray → Bool) (Tabs : World → Prop) (k : Nat) : Prop := ∀ (w : World), Tabs w → ∀ (t : Orch.Ty), okT k t → ∀ (S : Nat → Prop) (psv : Value), TsAt w S t.ps psv → (∀ b, S b → b < w.heap.size) → ∀ (bv : Value) (l : List UInt8), l.length ≤ 1000 → BsAt w bv l →
  Calls Tryz.prog 245 #[tval t.l psv, bv] w fun e w' => takeRes w w' bv l e (Orch.take valid k t l) ∧ Below w.heap.size w w'

def TeSaid (valid : ByteArray → Bool) (Tabs : World → Prop) (k : Nat) : Prop := ∀ (w : World), Tabs w → ∀ (t : Orch.Ty), okT (k + 1) t → ∀ (S : Nat → Prop) (psv : Value), TsAt w S t.ps psv → (∀ b, S b → b < w.heap.size) → ∀ (n : Nat), n ≤ 64 → (t.l.shape = 2 ∨ t.l.shape = 3 ∧ n = t.ps.length) → ∀ (bv : Value) (l : List UInt8), l.length ≤ 1000 → BsAt w bv l →
  Calls Tryz.prog 295 #[tval t.l psv, .int .i64 n, bv] w fun e w' => teRes w w' bv l e (Orch.takeE (Orch.take valid k) t n 0 l) ∧ Below w.heap.size w w'

theorem take_len (valid : ByteArray → Bool) {k : Nat} {t : Orch.Ty} {l : List UInt8} {v : Orch.V} {r : List UInt8} (h : Orch.take valid k t l = some (v, r)) : r.length ≤ l.length := by
  obtain ⟨pre, hb, _⟩ := Orch.put_take valid _ _ _ _ _ h
  rw [hb, List.length_append]; omega

section
variable {valid : ByteArray → Bool} {Tabs : World → Prop}

set_option maxRecDepth 8000 in
set_option maxHeartbeats 2000000 in
theorem te_of_tk (U : Utf valid Tabs) (k : Nat) (ih : TkSaid valid Tabs k) : TeSaid valid Tabs k := by
  intro w hT t hok S psv hts hS n hn h23 bv l hl hbv
  obtain ⟨pa, pc, rfl⟩ := hts.shape
  have HIH := hide ih
  have HTS := hide hts
  have HS := hide hS
  have HOK := hide hok
  have H23 := hide h23
  have HTb : Hid (∀ w', Below w.heap.size w w' → Tabs w') := fun w' h => U.kept (U.size hT) h hT
  obtain ⟨TOT, hTOT⟩ : ∃ TOT, Orch.takeE (Orch.take valid k) t n 0 l = TOT := ⟨_, rfl⟩
  rw [hTOT]
  have HTOT := hide hTOT
  have HBV := hide hbv
  clear ih hts hS hok h23 hT hTOT hbv
  simp only [tval, tyv]
  generalize hsg : t.l.sign.toNat = sg
  generalize hsh : t.l.shape = sh
  generalize hsz : t.l.size = sz
  generalize hlo : t.l.least = lo
  generalize hhi : t.l.most = hi
  generalize htx : t.l.text = tx
  generalize hfn : t.l.fin.toNat = fn
  have HPART : Hid (∀ (W : World) (i : Nat), i < n → Below w.heap.size w W → Calls Tryz.prog 244 #[.agg #[.int .u8 sg, .int .i64 sh, .int .i64 sz, .int .i64 lo, .int .i64 hi, .bool tx, .int .u8 fn, .slice pa t.ps.length pc], .int .i64 i] W fun e w' => ∃ x, e = .returned (tval (Orch.part t i).l x) ∧ TsAt W S (Orch.part t i).ps x ∧ Below W.heap.size W w') := fun W i hi' hbW => by
    subst hsg hsh hsz hlo hhi htx hfn
    exact part_any W S t HOK.out _ (HTS.out.congr (fun _ h => h) (fun b hb => hbW.block b (HS.out b hb))) (fun b hb => Nat.lt_of_lt_of_le (HS.out b hb) hbW.size) i (by have := H23.out; omega)
  clear hsg hsh hsz hlo hhi htx hfn
  have HOK2 : Hid (∀ i, i < n → okT k (Orch.part t i)) := fun i hi' => part_ok HOK.out i (by have := H23.out; omega)
  clear H23 HOK
  generalize t.ps.length = pn at *
  obtain ⟨n0, n1, n2⟩ := new3 w (.cells #[.int .u8 sg, .int .i64 sh, .int .i64 sz, .int .i64 lo, .int .i64 hi, .bool tx, .int .u8 fn, .slice pa pn pc] 227) (.cells #[.int .i64 0, .string ⟨#[]⟩, .slice none 0 0] 113) (.cells #[.int .i64 0, .string ⟨#[]⟩, .slice none 0 0] 113)
  have N0 := hide n0
  have N1 := hide n1
  have N2 := hide n2
  clear n0 n1 n2
  have hsw : w.heap.size + 3 ≤ (((w.alloc (.cells #[.int .u8 sg, .int .i64 sh, .int .i64 sz, .int .i64 lo, .int .i64 hi, .bool tx, .int .u8 fn, .slice pa pn pc] 227)).alloc (.cells #[.int .i64 0, .string ⟨#[]⟩, .slice none 0 0] 113)).alloc (.cells #[.int .i64 0, .string ⟨#[]⟩, .slice none 0 0] 113)).heap.size := by simp
  obtain ⟨i0, hi0, hz0, hz1, hz2⟩ := info_parts Tryz.info113
  go_enter Tryz.func295, Tryz.ntmps295
  go_wp2
  go_loopw [2, 15] (fun b2 i15 wr => ∃ (i m : Nat) (lr : List UInt8) (ps : List (Orch.V × Value)) (lv : Value), i15 = .int .i64 i ∧ i + m = n ∧ ps.length = i ∧ lr.length ≤ 1000 ∧ Hid (Tail bv l b2 lr) ∧
      Hid ((Orch.takeE (Orch.take valid k) t m i lr).map (fun r => (ps.map Prod.fst ++ r.1, r.2)) = TOT) ∧ Hid (Below w.heap.size w wr) ∧ Hid (w.heap.size + 3 ≤ wr.heap.size) ∧
      Hid (wr.heap[w.heap.size]? = some (.cells #[.int .u8 sg, .int .i64 sh, .int .i64 sz, .int .i64 lo, .int .i64 hi, .bool tx, .int .u8 fn, .slice pa pn pc] 227)) ∧
      Hid (wr.heap[w.heap.size + 1]? = some (.cells #[.int .i64 0, .string ⟨#[]⟩, .slice none 0 0] 113)) ∧ Hid (wr.heap[w.heap.size + 1 + 1]? = some (.cells #[.int .i64 0, .string ⟨#[]⟩, lv] 113)) ∧
      Hid (wr.ownsRow (w.heap.size + 3) 113 3 lv ps.length (ps.flatMap vcell)) ∧ Hid (∀ p, p ∈ ps → VsAt wr (Beside (w.heap.size + 3) lv wr) p.1.l p.2) ∧ Hid (OwL wr (w.heap.size + 3) lv ps))
    (fun _ i _ => n - (intOf i).toNat)
  case atStart => exact ⟨0, n, l, [], .slice none 0 0, rfl, by omega, rfl, hl, Tail.refl _ _, by show _ = _; rw [HTOT.out]; cases TOT <;> simp, below3 _ _ _ _, hsw, N0, N1, N2, World.ownsRow_nil _ _ _ _, (fun p hp => by simp at hp), OwL.nil _ _ _⟩
  case round =>
    obtain ⟨i, m, lr, ps, lv, rfl, him, hpl, hlr, HB2, HE, HB, HSZ, HH0, HH1, HH2, HO, HPS, HOL⟩ := hrel
    obtain ⟨la, lc, hlv⟩ : ∃ a c, lv = .slice a ps.length c := by
      rcases HO.out.2 with ⟨e, h⟩ | ⟨g, cap, cur, e, _⟩
      · exact ⟨none, 0, by rw [e, h]⟩
      · exact ⟨_, _, e⟩
    subst hlv
    have HPL := hide hpl
    have hpl64 : ps.length ≤ 64 := by omega
    have HIM := hide him
    have hi64 : i ≤ 64 := by omega
    clear hpl
    have e0 := cellOf (j := 0) HH2.out rfl
    have e1 := cellOf (j := 1) HH2.out rfl
    have e2 := cellOf (j := 2) HH2.out rfl
    by_cases hlt : i < n
    · obtain ⟨m', rfl⟩ : ∃ m', m = m' + 1 := ⟨m - 1, by omega⟩
      have a0 := cellOf (j := 0) HH0.out rfl
      have a1 := cellOf (j := 1) HH0.out rfl
      have a2 := cellOf (j := 2) HH0.out rfl
      have a3 := cellOf (j := 3) HH0.out rfl
      have a4 := cellOf (j := 4) HH0.out rfl
      have a5 := cellOf (j := 5) HH0.out rfl
      have a6 := cellOf (j := 6) HH0.out rfl
      have a7 := cellOf (j := 7) HH0.out rfl
      have hltz : (i : Int) < (n : Int) := by omega
      have HTK : Hid (∀ (W W1 : World) (x : Value), Below w.heap.size w W1 → TsAt W1 S (Orch.part t i).ps x → Calls Tryz.prog 245 #[tval (Orch.part t i).l x, u2] W1 fun e w' => takeRes W1 w' u2 lr e (Orch.take valid k (Orch.part t i) lr) ∧ Below W1.heap.size W1 w') := fun W W1 x hb hx =>
        HIH.out W1 (HTb.out W1 hb) (Orch.part t i) (HOK2.out i hlt) S x hx (fun b hbb => Nat.lt_of_lt_of_le (HS.out b hbb) hb.size) u2 lr hlr ((HB2.out w HBV.out).below hb (Nat.le_refl _))
      have HN : Hid (TOT = match Orch.take valid k (Orch.part t i) lr with
          | none => none
          | some (e, rest) => (Orch.takeE (Orch.take valid k) t m' (i + 1) rest).map (fun r => (ps.map Prod.fst ++ [e] ++ r.1, r.2))) := by
        show _ = _
        rw [← HE.out, Orch.takeE]
        cases Orch.take valid k (Orch.part t i) lr with
        | none => rfl
        | some er =>
          obtain ⟨e, rest⟩ := er
          simp only
          cases Orch.takeE (Orch.take valid k) t m' (i + 1) rest with
          | none => rfl
          | some es => simp
      have HLEN : Hid (∀ v r, Orch.take valid k (Orch.part t i) lr = some (v, r) → r.length ≤ lr.length) := fun v r h => take_len valid h
      clear HE him HIH HTS HTOT HOK2 N0 N1 N2
      cases hq : Orch.take valid k (Orch.part t i) lr with
      | none =>
        have HR : Hid (TOT = none) := by
          show _ = _
          rw [HN.out, hq]
        rw [hq] at HTK
        clear HN hq HLEN
        go_wp2_with (first
          | (go_at_call 244; refine (HPART.out _ i hlt HB.out).mono ?_; rintro e w1 ⟨x, rfl, hx, hb1⟩; obtain ⟨xa, xc, rfl⟩ := hx.shape; have HB1 : Hid (Below wr.heap.size wr w1) := hb1; have HX1 : Hid (TsAt w1 S (Orch.part t i).ps (.slice xa (Orch.part t i).ps.length xc)) := hx.congr (fun _ h => h) (fun b hb => hb1.block b (Nat.lt_of_lt_of_le (HS.out b hb) HB.out.size)); clear hx hb1)
          | (go_at_call 245; refine (HTK.out wr _ _ (HB.out.trans (HB1.out.mono HB.out.size)) HX1.out).mono ?_; rintro e w2 ⟨⟨vn, vs, va, va', vm, vc, vm', vc', rfl⟩, hb2⟩; have HB3 : Hid (Below wr.heap.size wr w2) := HB1.out.trans (hb2.mono HB1.out.size); clear hb2)
          | (refine wpList_store_row rfl 113 _ _ rfl (w.heap.size + 1) #[.int .i64 0, .string ⟨#[]⟩, .slice none 0 0] rfl rfl 113 _ ((Below.heap_alloc _ _ _ (Nat.lt_of_lt_of_le (ltOf HH1.out) HB3.out.size)).trans ((HB3.out.block _ (ltOf HH1.out)).trans HH1.out)) Tryz.size113 rfl (one_v _ _ _ _ _) ?_))
        refine bp_gen (fun X => X.heap[w.heap.size + 1]? = some (.cells #[.int .i64 0, .string ⟨#[]⟩, .slice none 0 0] 113) ∧ Below w.heap.size w X) ⟨setRow_heap _ _ _ _ _ _ ((Below.heap_alloc _ _ _ (Nat.lt_of_lt_of_le (ltOf HH1.out) HB3.out.size)).trans ((HB3.out.block _ (ltOf HH1.out)).trans HH1.out)), below_setRow ((HB.out.trans (HB3.out.mono HB.out.size)).alloc (by have := HB.out.size; have := HB3.out.size; omega) _) (Nat.le_succ _) _⟩ ?_
        rintro X ⟨HQ, hbX⟩
        have c0 := cellOf (j := 0) HQ rfl
        have c1 := cellOf (j := 1) HQ rfl
        have c2 := cellOf (j := 2) HQ rfl
        have HBX := hide hbX
        clear hbX HQ e0 e1 e2 a0 a1 a2 a3 a4 a5 a6 a7
        refine bodyPost_ret (v := .tuple #[vv 0 ⟨#[]⟩ (.slice none 0 0), .slice none 0 0, .bool false]) (by simp [results, Tryz.results295, go_sem, c0, c1, c2]) rfl ⟨?_, HBX.out⟩
        rw [HR.out]
        exact ⟨_, _, _, _, _, _, _, _, rfl⟩
      | some er =>
        obtain ⟨v, rest⟩ := er
        have HR : Hid ((Orch.takeE (Orch.take valid k) t m' (i + 1) rest).map (fun r => (ps.map Prod.fst ++ [v] ++ r.1, r.2)) = TOT) := by
          show _ = _
          rw [HN.out, hq]
        have hrl := HLEN.out v rest hq
        rw [hq] at HTK
        clear HN hq HLEN
        go_wp2_with (first
          | (at_builtin; refine wpList_append_lies _ rfl _ _ 22 rfl (w.heap.size + 3) 113 i0 (vv 0 ⟨#[]⟩ (.slice none 0 0)) 3 48 Tryz.underlying22 hi0 hz0 hz1 hz2 rfl (by decide) _ _ _ rfl (((ownsRow_below HO.out HB3.out).alloc _).alloc _) ⟨w2.heap.size + 1, 0, none⟩ 1 1 (vcell (v, .slice va v.l.length vc)) rfl rfl ?hn ?h1 (by decide) ?c3 ?c4 ?c5 (w2.heap.size + 1 + 1) ?hH ?_)
          | (go_at_call 244; refine (HPART.out _ i hlt HB.out).mono ?_; rintro e w1 ⟨x, rfl, hx, hb1⟩; obtain ⟨xa, xc, rfl⟩ := hx.shape; have HB1 : Hid (Below wr.heap.size wr w1) := hb1; have HX1 : Hid (TsAt w1 S (Orch.part t i).ps (.slice xa (Orch.part t i).ps.length xc)) := hx.congr (fun _ h => h) (fun b hb => hb1.block b (Nat.lt_of_lt_of_le (HS.out b hb) HB.out.size)); clear hx hb1)
          | (go_at_call 245; refine (HTK.out wr _ _ (HB.out.trans (HB1.out.mono HB.out.size)) HX1.out).mono ?_; rintro e w2 ⟨⟨lv', rv, rfl, hvs, htl, hov⟩, hb2⟩; obtain ⟨va, vc, rfl⟩ := hvs.shape; have HB3 : Hid (Below wr.heap.size wr w2) := HB1.out.trans (hb2.mono HB1.out.size); have HVS : Hid (VsAt w2 (fun b => wr.heap.size ≤ b ∧ b < w2.heap.size) v.l (.slice va v.l.length vc)) := hvs.congr (fun b hb => ⟨Nat.le_trans HB1.out.size hb.1, hb.2⟩) (fun _ _ => rfl); have HTL := hide htl; have HOV : Hid (OwT w2 wr.heap.size w2.heap.size v.l (.slice va v.l.length vc)) := OwT.mono hov HB1.out.size (Nat.le_refl _); clear hov; have g2 := cellOf (j := 2) ((HB3.out.block _ (ltOf HH2.out)).trans HH2.out) rfl; have hw2 : w.heap.size + 1 + 1 < w2.heap.size := Nat.lt_of_lt_of_le (ltOf HH2.out) HB3.out.size; clear hb2 hvs htl))
        case hn => exact World.news_of_block (new2 w2 _ _).2
        case h1 => intro u hu; simp only [vcell, List.mem_cons, List.mem_nil_iff, or_false] at hu; rcases hu with rfl | rfl | rfl <;> rfl
        case c3 => unfold maxLen; omega
        case c4 => omega
        case c5 => have := HSZ.out; have := HB3.out.size; simp; omega
        case hH => simp
        intro g cap w3 hown3 hgr hat _
        obtain ⟨r1, r2, r3⟩ := grow_V (t := v) (x := .slice va v.l.length vc) HSZ.out HO.out HPS.out HB3.out HVS.out (below2 w2 _ _) hown3 hgr (by simpa using hat)
        have r4 := OwL.grow (n := ps.length + 1) (cap := cap) (t := v) (x := .slice va v.l.length vc) HSZ.out (fun g' h' => (HO.out.lt g' h').2) HOL.out HB3.out HOV.out (below2 w2 _ _) hgr (by simpa using hat)
        have k2 : w3.heap[w.heap.size + 1 + 1]? = _ := (r3.block _ (by omega)).trans HH2.out
        have k1 : w3.heap[w.heap.size + 1]? = _ := (r3.block _ (by omega)).trans HH1.out
        have k0 : w3.heap[w.heap.size]? = _ := (r3.block _ (by omega)).trans HH0.out
        have d2 := cellOf (j := 2) k2 rfl
        have f2 := frozenOf (j := 2) k2
        have s3 := hide (Nat.le_trans HSZ.out r3.size)
        have q2 := heap_setCell_same w3 (w.heap.size + 1 + 1) 2 _ 113 (.slice (some ⟨g, 0, none⟩) (ps.length + 1) cap) k2
        have Q2 : Hid ((w3.setCell ⟨w.heap.size + 1 + 1, 2, none⟩ (.slice (some ⟨g, 0, none⟩) (ps.length + 1) cap)).heap[w.heap.size + 1 + 1]? = some (.cells #[.int .i64 0, .string ⟨#[]⟩, .slice (some ⟨g, 0, none⟩) (ps.length + 1) cap] 113)) := q2
        have Q1 : Hid ((w3.setCell ⟨w.heap.size + 1 + 1, 2, none⟩ (.slice (some ⟨g, 0, none⟩) (ps.length + 1) cap)).heap[w.heap.size + 1]? = some (.cells #[.int .i64 0, .string ⟨#[]⟩, .slice none 0 0] 113)) := (heap_setCell_other _ ⟨w.heap.size + 1 + 1, 2, none⟩ _ _ (by show w.heap.size + 1 ≠ w.heap.size + 1 + 1; omega)).trans k1
        have Q0 : Hid ((w3.setCell ⟨w.heap.size + 1 + 1, 2, none⟩ (.slice (some ⟨g, 0, none⟩) (ps.length + 1) cap)).heap[w.heap.size]? = some (.cells #[.int .u8 sg, .int .i64 sh, .int .i64 sz, .int .i64 lo, .int .i64 hi, .bool tx, .int .u8 fn, .slice pa pn pc] 227)) := (heap_setCell_other _ ⟨w.heap.size + 1 + 1, 2, none⟩ _ _ (by show w.heap.size ≠ w.heap.size + 1 + 1; omega)).trans k0
        have R1 := hide (ownsRow_setCell_below r1 (a := ⟨w.heap.size + 1 + 1, 2, none⟩) (by show w.heap.size + 1 + 1 < w.heap.size + 3; omega) (.slice (some ⟨g, 0, none⟩) (ps.length + 1) cap))
        have R2 : Hid (∀ p, p ∈ ps ++ [(v, Value.slice va v.l.length vc)] → VsAt (w3.setCell ⟨w.heap.size + 1 + 1, 2, none⟩ (.slice (some ⟨g, 0, none⟩) (ps.length + 1) cap)) (Beside (w.heap.size + 3) (.slice (some ⟨g, 0, none⟩) (ps.length + 1) cap) (w3.setCell ⟨w.heap.size + 1 + 1, 2, none⟩ (.slice (some ⟨g, 0, none⟩) (ps.length + 1) cap))) p.1.l p.2) := fun p hp =>
          (r2 p hp).congr (fun b hb => ⟨hb.1, by have := hb.2.1; simpa [World.setCell] using this, hb.2.2⟩) (fun b hb => heap_setCell_other _ ⟨w.heap.size + 1 + 1, 2, none⟩ _ _ (by have := hb.1; show b ≠ w.heap.size + 1 + 1; omega))
        have R3 : Hid (Below w.heap.size w (w3.setCell ⟨w.heap.size + 1 + 1, 2, none⟩ (.slice (some ⟨g, 0, none⟩) (ps.length + 1) cap))) := (HB.out.trans (r3.mono (by omega))).setCell (p := ⟨w.heap.size + 1 + 1, 2, none⟩) (by show w.heap.size ≤ w.heap.size + 1 + 1; omega) _
        have R4 : Hid (w.heap.size + 3 ≤ (w3.setCell ⟨w.heap.size + 1 + 1, 2, none⟩ (.slice (some ⟨g, 0, none⟩) (ps.length + 1) cap)).heap.size) := by
          show _ ≤ _
          have := s3.out
          simpa [World.setCell] using this
        have HR2 : Hid ((Orch.takeE (Orch.take valid k) t m' (i + 1) rest).map (fun r => ((ps ++ [(v, Value.slice va v.l.length vc)]).map Prod.fst ++ r.1, r.2)) = TOT) := by
          show _ = _
          rw [List.map_append]
          exact HR.out
        have R5 : Hid (OwL (w3.setCell ⟨w.heap.size + 1 + 1, 2, none⟩ (.slice (some ⟨g, 0, none⟩) (ps.length + 1) cap)) (w.heap.size + 3) (.slice (some ⟨g, 0, none⟩) (ps.length + 1) cap) (ps ++ [(v, Value.slice va v.l.length vc)])) :=
          r4.keep (by simp [World.setCell]) (fun b hb _ _ => heap_setCell_other _ ⟨w.heap.size + 1 + 1, 2, none⟩ _ _ (by show b ≠ w.heap.size + 1 + 1; omega))
        clear r4
        clear r1 r2 r3 k0 k1 k2 q2 hown3 hgr hat e0 e1 e2 g2
        go_wp2
        go_roundw
        case rel => exact ⟨i + 1, m', rest, ps ++ [(v, .slice va v.l.length vc)], .slice (some ⟨g, 0, none⟩) (ps.length + 1) cap, by go_num, by have := HIM.out; omega, by rw [List.length_append, List.length_singleton, HPL.out], by omega, HB2.out.trans HTL.out, HR2, R3, R4, Q0, Q1, Q2, R1, R2, R5⟩
        case measure => simp [intOf]; omega
    · have hm0 : m = 0 := by omega
      subst hm0
      clear him
      have HR : Hid (TOT = some (ps.map Prod.fst, lr)) := by
        show _ = _
        rw [← HE.out]; simp [Orch.takeE]
      clear HE
      go_wp2_with (refine wpList_store_row rfl 113 _ _ rfl (w.heap.size + 1) #[.int .i64 0, .string ⟨#[]⟩, .slice la ps.length lc] rfl rfl 113 _ HH1.out Tryz.size113 rfl (one_v _ _ _ _ _) ?_)
      refine bp_gen (fun X => X.heap[w.heap.size + 1]? = some (.cells #[.int .i64 0, .string ⟨#[]⟩, .slice la ps.length lc] 113) ∧ Below w.heap.size w X ∧ X.heap.size = wr.heap.size ∧ ∀ b, b ≠ w.heap.size + 1 → X.heap[b]? = wr.heap[b]?) ⟨setRow_heap _ _ _ _ _ _ HH1.out, below_setRow HB.out (Nat.le_succ _) _, by simp, fun b hb => setRow_other _ _ _ _ hb⟩ ?_
      rintro X ⟨HQ, hbX, hsX, hkX⟩
      have c0 := cellOf (j := 0) HQ rfl
      have c1 := cellOf (j := 1) HQ rfl
      have c2 := cellOf (j := 2) HQ rfl
      have HBX := hide hbX
      have HSX := hide hsX
      have HKX := hide hkX
      clear hbX hsX hkX HQ e0 e1 e2
      refine bodyPost_ret (v := .tuple #[vv 0 ⟨#[]⟩ (.slice la ps.length lc), u2, .bool true]) (by simp [results, Tryz.results295, go_sem, c0, c1, c2]) rfl ⟨?_, HBX.out⟩
      rw [HR.out]
      have hdone := OwL.done HO.out HOL.out
      refine ⟨_, _, rfl, ?_, ?_, OwnV.keep (w := wr) (base := w.heap.size + 3) hdone (by omega) (by rw [HSX.out]; exact Nat.le_refl _) (fun b hb _ => HKX.out b (by omega))⟩
      · refine (done_V (B := w.heap.size + 3) HO.out HPS.out (Nat.le_refl _)).congr (fun b hb => ⟨by omega, by rw [HSX.out]; exact hb.2⟩) (fun b hb => HKX.out b (by omega))
      · exact HB2.out
end
end Go.Proofs.YtlghcldiboecoaaGreatDoor

/- take, its walks. -/
set_option linter.unusedVariables false
namespace Go.Proofs.YtlghcldiboecoaaGreatDoor
open Go.RowKit

/-- What a call that is handed on leaves behind: the answer, and all memory but the one cell of the result. -/
def onEnd (pv : World → Value → World → Prop) (w : World) (e : Ending) (w' : World) : Prop :=
  (∃ (W wb : World) (v : Value), e = .returned v ∧ pv W v wb ∧ w.heap.size + 2 ≤ W.heap.size ∧ w'.heap.size = wb.heap.size ∧ ∀ b, b ≠ w.heap.size + 1 → w'.heap[b]? = wb.heap[b]?) ∧ Below w.heap.size w w'

def handed (pv : World → Value → World → Prop) (W : World) (e : Ending) (w' : World) : Prop :=
  (∃ (n : Int) (s : ByteArray) (a : Option Addr) (m c : Nat) (rv : Value) (ok : Bool), e = .returned (.tuple #[vv n s (.slice a m c), rv, .bool ok]) ∧ pv W (.tuple #[vv n s (.slice a m c), rv, .bool ok]) w') ∧ Below W.heap.size W w'

set_option maxRecDepth 8000 in
set_option maxHeartbeats 1000000 in
theorem take_0 (w : World) (sg sz : Nat) (lo hi : Int) (tx : Bool) (fn : Nat) (pa : Option Addr) (pn pc : Nat) (bv : Value) (pv : World → Value → World → Prop)
    (HC : Hid (∀ W, Below w.heap.size w W → Calls Tryz.prog 292 #[tyv sg 0 sz lo hi tx fn (.slice pa pn pc), bv] W (handed pv W))) :
    Calls Tryz.prog 245 #[tyv sg 0 sz lo hi tx fn (.slice pa pn pc), bv] w (onEnd pv w) := by
  obtain ⟨n0, n1⟩ := new2 w (.cells #[.int .u8 sg, .int .i64 0, .int .i64 sz, .int .i64 lo, .int .i64 hi, .bool tx, .int .u8 fn, .slice pa pn pc] 227) (.cells #[.int .i64 0, .string ⟨#[]⟩, .slice none 0 0] 113)
  have N1 := hide n1
  clear n0 n1
  have hsz : w.heap.size + 2 ≤ ((w.alloc (.cells #[.int .u8 sg, .int .i64 0, .int .i64 sz, .int .i64 lo, .int .i64 hi, .bool tx, .int .u8 fn, .slice pa pn pc] 227)).alloc (.cells #[.int .i64 0, .string ⟨#[]⟩, .slice none 0 0] 113)).heap.size := by simp
  have HSZ := hide hsz
  clear hsz
  go_enter Tryz.func245, Tryz.ntmps245
  go_wp2_with (first
    | (refine wpList_store_row rfl 113 _ _ rfl (w.heap.size + 1) #[.int .i64 n, .string s, .slice a m c] rfl rfl 113 _ HH.out Tryz.size113 rfl (one_v _ _ _ _ _) ?_)
    | (go_at_call 292; refine (HC.out _ (below2 _ _ _)).mono ?_; rintro e w1 ⟨⟨n, s, a, m, c, rv, ok, rfl, hpv⟩, hb1⟩; have HPV := hide hpv; have HH : Hid (w1.heap[w.heap.size + 1]? = some (.cells #[.int .i64 0, .string ⟨#[]⟩, .slice none 0 0] 113)) := (hb1.block _ (ltOf N1.out)).trans N1.out; have HB1 : Hid (Below w.heap.size w w1) := (below2 _ _ _).trans (hb1.mono (by simp; omega)); clear hb1 hpv))
  refine bp_gen (fun X => X.heap[w.heap.size + 1]? = some (.cells #[.int .i64 n, .string s, .slice a m c] 113) ∧ Below w.heap.size w X ∧ X.heap.size = w1.heap.size ∧ ∀ b, b ≠ w.heap.size + 1 → X.heap[b]? = w1.heap[b]?) ⟨setRow_heap _ _ _ _ _ _ HH.out, below_setRow HB1.out (Nat.le_succ _) _, by simp, fun b hb => setRow_other _ _ _ _ hb⟩ ?_
  rintro X ⟨HQ, hbX, hsX, hkX⟩
  have c0 := cellOf (j := 0) HQ rfl
  have c1 := cellOf (j := 1) HQ rfl
  have c2 := cellOf (j := 2) HQ rfl
  have HBX := hide hbX
  have HSX := hide hsX
  have HKX := hide hkX
  clear hbX hsX hkX HQ
  exact bodyPost_ret (v := .tuple #[vv n s (.slice a m c), rv, .bool ok]) (by simp [results, Tryz.results245, go_sem, c0, c1, c2]) rfl ⟨⟨_, w1, _, rfl, HPV.out, HSZ.out, HSX.out, HKX.out⟩, HBX.out⟩
set_option maxRecDepth 8000 in
set_option maxHeartbeats 1000000 in
theorem take_1 (w : World) (sg sz : Nat) (lo hi : Int) (tx : Bool) (fn : Nat) (pa : Option Addr) (pn pc : Nat) (bv : Value) (pv : World → Value → World → Prop)
    (HC : Hid (∀ W, Below w.heap.size w W → Calls Tryz.prog 293 #[tyv sg 1 sz lo hi tx fn (.slice pa pn pc), bv] W (handed pv W))) :
    Calls Tryz.prog 245 #[tyv sg 1 sz lo hi tx fn (.slice pa pn pc), bv] w (onEnd pv w) := by
  obtain ⟨n0, n1⟩ := new2 w (.cells #[.int .u8 sg, .int .i64 1, .int .i64 sz, .int .i64 lo, .int .i64 hi, .bool tx, .int .u8 fn, .slice pa pn pc] 227) (.cells #[.int .i64 0, .string ⟨#[]⟩, .slice none 0 0] 113)
  have N1 := hide n1
  clear n0 n1
  have hsz : w.heap.size + 2 ≤ ((w.alloc (.cells #[.int .u8 sg, .int .i64 1, .int .i64 sz, .int .i64 lo, .int .i64 hi, .bool tx, .int .u8 fn, .slice pa pn pc] 227)).alloc (.cells #[.int .i64 0, .string ⟨#[]⟩, .slice none 0 0] 113)).heap.size := by simp
  have HSZ := hide hsz
  clear hsz
  go_enter Tryz.func245, Tryz.ntmps245
  go_wp2_with (first
    | (refine wpList_store_row rfl 113 _ _ rfl (w.heap.size + 1) #[.int .i64 n, .string s, .slice a m c] rfl rfl 113 _ HH.out Tryz.size113 rfl (one_v _ _ _ _ _) ?_)
    | (go_at_call 293; refine (HC.out _ (below2 _ _ _)).mono ?_; rintro e w1 ⟨⟨n, s, a, m, c, rv, ok, rfl, hpv⟩, hb1⟩; have HPV := hide hpv; have HH : Hid (w1.heap[w.heap.size + 1]? = some (.cells #[.int .i64 0, .string ⟨#[]⟩, .slice none 0 0] 113)) := (hb1.block _ (ltOf N1.out)).trans N1.out; have HB1 : Hid (Below w.heap.size w w1) := (below2 _ _ _).trans (hb1.mono (by simp; omega)); clear hb1 hpv))
  refine bp_gen (fun X => X.heap[w.heap.size + 1]? = some (.cells #[.int .i64 n, .string s, .slice a m c] 113) ∧ Below w.heap.size w X ∧ X.heap.size = w1.heap.size ∧ ∀ b, b ≠ w.heap.size + 1 → X.heap[b]? = w1.heap[b]?) ⟨setRow_heap _ _ _ _ _ _ HH.out, below_setRow HB1.out (Nat.le_succ _) _, by simp, fun b hb => setRow_other _ _ _ _ hb⟩ ?_
  rintro X ⟨HQ, hbX, hsX, hkX⟩
  have c0 := cellOf (j := 0) HQ rfl
  have c1 := cellOf (j := 1) HQ rfl
  have c2 := cellOf (j := 2) HQ rfl
  have HBX := hide hbX
  have HSX := hide hsX
  have HKX := hide hkX
  clear hbX hsX hkX HQ
  exact bodyPost_ret (v := .tuple #[vv n s (.slice a m c), rv, .bool ok]) (by simp [results, Tryz.results245, go_sem, c0, c1, c2]) rfl ⟨⟨_, w1, _, rfl, HPV.out, HSZ.out, HSX.out, HKX.out⟩, HBX.out⟩
set_option maxRecDepth 8000 in
set_option maxHeartbeats 1000000 in
theorem take_3 (w : World) (sg sz : Nat) (lo hi : Int) (tx : Bool) (fn : Nat) (pa : Option Addr) (pn pc : Nat) (bv : Value) (pv : World → Value → World → Prop)
    (HC : Hid (∀ W, Below w.heap.size w W → Calls Tryz.prog 295 #[tyv sg 3 sz lo hi tx fn (.slice pa pn pc), .int .i64 pn, bv] W (handed pv W))) :
    Calls Tryz.prog 245 #[tyv sg 3 sz lo hi tx fn (.slice pa pn pc), bv] w (onEnd pv w) := by
  obtain ⟨n0, n1⟩ := new2 w (.cells #[.int .u8 sg, .int .i64 3, .int .i64 sz, .int .i64 lo, .int .i64 hi, .bool tx, .int .u8 fn, .slice pa pn pc] 227) (.cells #[.int .i64 0, .string ⟨#[]⟩, .slice none 0 0] 113)
  have N1 := hide n1
  clear n0 n1
  have hsz : w.heap.size + 2 ≤ ((w.alloc (.cells #[.int .u8 sg, .int .i64 3, .int .i64 sz, .int .i64 lo, .int .i64 hi, .bool tx, .int .u8 fn, .slice pa pn pc] 227)).alloc (.cells #[.int .i64 0, .string ⟨#[]⟩, .slice none 0 0] 113)).heap.size := by simp
  have HSZ := hide hsz
  clear hsz
  go_enter Tryz.func245, Tryz.ntmps245
  go_wp2_with (first
    | (refine wpList_store_row rfl 113 _ _ rfl (w.heap.size + 1) #[.int .i64 n, .string s, .slice a m c] rfl rfl 113 _ HH.out Tryz.size113 rfl (one_v _ _ _ _ _) ?_)
    | (go_at_call 295; refine (HC.out _ (below2 _ _ _)).mono ?_; rintro e w1 ⟨⟨n, s, a, m, c, rv, ok, rfl, hpv⟩, hb1⟩; have HPV := hide hpv; have HH : Hid (w1.heap[w.heap.size + 1]? = some (.cells #[.int .i64 0, .string ⟨#[]⟩, .slice none 0 0] 113)) := (hb1.block _ (ltOf N1.out)).trans N1.out; have HB1 : Hid (Below w.heap.size w w1) := (below2 _ _ _).trans (hb1.mono (by simp; omega)); clear hb1 hpv))
  refine bp_gen (fun X => X.heap[w.heap.size + 1]? = some (.cells #[.int .i64 n, .string s, .slice a m c] 113) ∧ Below w.heap.size w X ∧ X.heap.size = w1.heap.size ∧ ∀ b, b ≠ w.heap.size + 1 → X.heap[b]? = w1.heap[b]?) ⟨setRow_heap _ _ _ _ _ _ HH.out, below_setRow HB1.out (Nat.le_succ _) _, by simp, fun b hb => setRow_other _ _ _ _ hb⟩ ?_
  rintro X ⟨HQ, hbX, hsX, hkX⟩
  have c0 := cellOf (j := 0) HQ rfl
  have c1 := cellOf (j := 1) HQ rfl
  have c2 := cellOf (j := 2) HQ rfl
  have HBX := hide hbX
  have HSX := hide hsX
  have HKX := hide hkX
  clear hbX hsX hkX HQ
  exact bodyPost_ret (v := .tuple #[vv n s (.slice a m c), rv, .bool ok]) (by simp [results, Tryz.results245, go_sem, c0, c1, c2]) rfl ⟨⟨_, w1, _, rfl, HPV.out, HSZ.out, HSX.out, HKX.out⟩, HBX.out⟩
set_option maxRecDepth 8000 in
set_option maxHeartbeats 1000000 in
theorem take_2 (w : World) (sg sz : Nat) (lo hi : Int) (tx : Bool) (fn : Nat) (pa : Option Addr) (pn pc : Nat) (bv : Value) (pv : World → Value → World → Prop)
    (nn : Nat) (q : Value → Prop)
    (HK : Hid (∀ W, Below w.heap.size w W → Calls Tryz.prog 294 #[bv, .int .i64 32] W fun e w' => (∃ v, e = .returned (.tuple #[.int .i64 nn, v, .bool true]) ∧ q v) ∧ Below W.heap.size W w'))
    (HC : Hid (∀ W v, q v → Below w.heap.size w W → Calls Tryz.prog 295 #[tyv sg 2 sz lo hi tx fn (.slice pa pn pc), .int .i64 nn, v] W (handed pv W))) :
    Calls Tryz.prog 245 #[tyv sg 2 sz lo hi tx fn (.slice pa pn pc), bv] w (onEnd pv w) := by
  obtain ⟨n0, n1⟩ := new2 w (.cells #[.int .u8 sg, .int .i64 2, .int .i64 sz, .int .i64 lo, .int .i64 hi, .bool tx, .int .u8 fn, .slice pa pn pc] 227) (.cells #[.int .i64 0, .string ⟨#[]⟩, .slice none 0 0] 113)
  have N0 := hide n0
  have N1 := hide n1
  clear n0 n1
  have hsz : w.heap.size + 2 ≤ ((w.alloc (.cells #[.int .u8 sg, .int .i64 2, .int .i64 sz, .int .i64 lo, .int .i64 hi, .bool tx, .int .u8 fn, .slice pa pn pc] 227)).alloc (.cells #[.int .i64 0, .string ⟨#[]⟩, .slice none 0 0] 113)).heap.size := by simp
  have HSZ := hide hsz
  clear hsz
  go_enter Tryz.func245, Tryz.ntmps245
  go_wp2_with (first
    | (refine wpList_store_row rfl 113 _ _ rfl (w.heap.size + 1) #[.int .i64 n, .string s, .slice a m c] rfl rfl 113 _ HH.out Tryz.size113 rfl (one_v _ _ _ _ _) ?_)
    | (go_at_call 294; refine (HK.out _ (below2 _ _ _)).mono ?_; rintro e w0 ⟨⟨v0, rfl, hq⟩, hb0⟩; have HQV := hide hq; have HB0 : Hid (Below w.heap.size w w0) := (below2 _ _ _).trans (hb0.mono (by simp; omega)); have M1 : Hid (w0.heap[w.heap.size + 1]? = some (.cells #[.int .i64 0, .string ⟨#[]⟩, .slice none 0 0] 113)) := (hb0.block _ (ltOf N1.out)).trans N1.out; have m0 := (hb0.block _ (ltOf N0.out)).trans N0.out; have a0 := cellOf (j := 0) m0 rfl; have a1 := cellOf (j := 1) m0 rfl; have a2 := cellOf (j := 2) m0 rfl; have a3 := cellOf (j := 3) m0 rfl; have a4 := cellOf (j := 4) m0 rfl; have a5 := cellOf (j := 5) m0 rfl; have a6 := cellOf (j := 6) m0 rfl; have a7 := cellOf (j := 7) m0 rfl; clear hb0 hq m0)
    | (go_at_call 295; refine (HC.out _ _ HQV.out HB0.out).mono ?_; rintro e w1 ⟨⟨n, s, a, m, c, rv, ok, rfl, hpv⟩, hb1⟩; have HPV := hide hpv; have HH : Hid (w1.heap[w.heap.size + 1]? = some (.cells #[.int .i64 0, .string ⟨#[]⟩, .slice none 0 0] 113)) := (hb1.block _ (ltOf M1.out)).trans M1.out; have HB1 : Hid (Below w.heap.size w w1) := HB0.out.trans (hb1.mono HB0.out.size); have HSZ0 : Hid (w.heap.size + 2 ≤ w0.heap.size) := ltOf M1.out; clear hb1 hpv a0 a1 a2 a3 a4 a5 a6 a7))
  refine bp_gen (fun X => X.heap[w.heap.size + 1]? = some (.cells #[.int .i64 n, .string s, .slice a m c] 113) ∧ Below w.heap.size w X ∧ X.heap.size = w1.heap.size ∧ ∀ b, b ≠ w.heap.size + 1 → X.heap[b]? = w1.heap[b]?) ⟨setRow_heap _ _ _ _ _ _ HH.out, below_setRow HB1.out (Nat.le_succ _) _, by simp, fun b hb => setRow_other _ _ _ _ hb⟩ ?_
  rintro X ⟨HQ, hbX, hsX, hkX⟩
  have c0 := cellOf (j := 0) HQ rfl
  have c1 := cellOf (j := 1) HQ rfl
  have c2 := cellOf (j := 2) HQ rfl
  have HBX := hide hbX
  have HSX := hide hsX
  have HKX := hide hkX
  clear hbX hsX hkX HQ
  exact bodyPost_ret (v := .tuple #[vv n s (.slice a m c), rv, .bool ok]) (by simp [results, Tryz.results245, go_sem, c0, c1, c2]) rfl ⟨⟨_, w1, _, rfl, HPV.out, HSZ0.out, HSX.out, HKX.out⟩, HBX.out⟩
set_option maxRecDepth 8000 in
set_option maxHeartbeats 1000000 in
theorem take_2none (w : World) (sg sz : Nat) (lo hi : Int) (tx : Bool) (fn : Nat) (pa : Option Addr) (pn pc : Nat) (bv : Value)
    (HK : Hid (∀ W, Below w.heap.size w W → Calls Tryz.prog 294 #[bv, .int .i64 32] W fun e w' => e = .returned (.tuple #[.int .i64 0, .slice none 0 0, .bool false]) ∧ Below W.heap.size W w')) :
    Calls Tryz.prog 245 #[tyv sg 2 sz lo hi tx fn (.slice pa pn pc), bv] w fun e w' => noneEnd e ∧ Below w.heap.size w w' := by
  obtain ⟨n0, n1⟩ := new2 w (.cells #[.int .u8 sg, .int .i64 2, .int .i64 sz, .int .i64 lo, .int .i64 hi, .bool tx, .int .u8 fn, .slice pa pn pc] 227) (.cells #[.int .i64 0, .string ⟨#[]⟩, .slice none 0 0] 113)
  have N1 := hide n1
  clear n0 n1
  go_enter Tryz.func245, Tryz.ntmps245
  go_wp2_with (first
    | (refine wpList_store_row rfl 113 _ _ rfl (w.heap.size + 1) #[.int .i64 0, .string ⟨#[]⟩, .slice none 0 0] rfl rfl 113 _ HH.out Tryz.size113 rfl (one_v _ _ _ _ _) ?_)
    | (go_at_call 294; refine (HK.out _ (below2 _ _ _)).mono ?_; rintro e w1 ⟨rfl, hb1⟩; have HH : Hid (w1.heap[w.heap.size + 1]? = some (.cells #[.int .i64 0, .string ⟨#[]⟩, .slice none 0 0] 113)) := (hb1.block _ (ltOf N1.out)).trans N1.out; have HB1 : Hid (Below w.heap.size w w1) := (below2 _ _ _).trans (hb1.mono (by simp; omega)); clear hb1))
  refine bp_gen (fun X => X.heap[w.heap.size + 1]? = some (.cells #[.int .i64 0, .string ⟨#[]⟩, .slice none 0 0] 113) ∧ Below w.heap.size w X) ⟨setRow_heap _ _ _ _ _ _ HH.out, below_setRow HB1.out (Nat.le_succ _) _⟩ ?_
  rintro X ⟨HQ, hbX⟩
  have c0 := cellOf (j := 0) HQ rfl
  have c1 := cellOf (j := 1) HQ rfl
  have c2 := cellOf (j := 2) HQ rfl
  have HBX := hide hbX
  clear hbX HQ
  exact bodyPost_ret (v := .tuple #[vv 0 ⟨#[]⟩ (.slice none 0 0), .slice none 0 0, .bool false]) (by simp [results, Tryz.results245, go_sem, c0, c1, c2]) rfl ⟨⟨_, _, _, _, _, _, _, _, rfl⟩, HBX.out⟩

end Go.Proofs.YtlghcldiboecoaaGreatDoor
