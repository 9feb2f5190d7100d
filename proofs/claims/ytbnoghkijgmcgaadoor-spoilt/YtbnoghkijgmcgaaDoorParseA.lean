/- parseType and Parse, whole. -/
import Derived.Test.YtbnoghkijgmcgaaDoorParseL
import Derived.Test.YtbnoghkijgmcgaaDoorParseN
set_option linter.unusedVariables false
namespace Go.Proofs.YtbnoghkijgmcgaaDoor
open Go.RowKit

theorem pt_succ (k : Nat) (hk : k + 1 ≤ 9) (hp : PpSaid k) : PtSaid (k + 1) := by
  intro w s d hT hs hd
  by_cases h0 : s.size = 0
  · have e : Orch.ptype (k + 1) s.data.toList = none := by
      rw [← Lib.toList_data, (toList_nil s).2 h0]; rfl
    rw [e]
    exact pt_stop w s d (Or.inl h0)
  · have hpn : 0 < s.size := by omega
    have hc := str_cons s hpn
    have hxl : (s.extract 1 s.size).data.toList.length = (s.extract 1 s.size).size := (Lib.size_eq _).symm
    have hxs : (s.extract 1 s.size).size ≤ 64 := by
      rw [Lib.size_eq, Lib.extract_data, List.length_take, List.length_drop]; omega
    rw [hc, Orch.ptype]
    cases hf : Orch.find s[0] with
    | none => exact pt_nofind w s d hT hpn (by omega) hf
    | some l =>
      by_cases hl : l.fin = 0
      · simp only [if_pos hl]
        refine (pt_leaf w s d hT hpn (by omega) l hf hl).mono ?_
        rintro e w' ⟨rfl, hb⟩
        exact ⟨⟨_, _, rfl, rfl, .nil _ _⟩, hb⟩
      · simp only [if_neg hl, hxl]
        obtain ⟨TOT, hTOT⟩ : ∃ TOT, Orch.parts (Orch.ptype k) l ((s.extract 1 s.size).size + 1) (s.extract 1 s.size).data.toList [] = TOT := ⟨_, rfl⟩
        rw [hTOT]
        by_cases hd0 : 0 ≤ d
        · refine (pt_node w s d hT hpn hd0 (by omega) l hf hl (fun w' a m c r ok w'' => ppRes w' w'' (.returned (.tuple #[.slice a m c, .string r, .bool ok])) TOT) (fun w' ht => ?_)).mono ?_
          · refine (hp w' (s.extract 1 s.size) l (d + 1) ht hxs (by omega)).mono ?_
            rintro e w'' ⟨hres, hb⟩
            rw [hTOT] at hres
            refine ⟨?_, hb⟩
            cases TOT with
            | none =>
              have he : e = .returned (.tuple #[.slice none 0 0, .string ⟨#[]⟩, .bool false]) := hres
              exact ⟨none, 0, 0, ⟨#[]⟩, false, he, by rw [← he]; exact hres⟩
            | some pr =>
              obtain ⟨ps, rest⟩ := pr
              obtain ⟨v, r, he, hr, hts⟩ := hres
              obtain ⟨a, c, rfl⟩ := hts.shape
              exact ⟨a, ps.length, c, r, true, he, ⟨_, r, rfl, hr, hts⟩⟩
          · rintro e w' ⟨⟨wa, wb, a, m, c, r, ok, rfl, hpv, hlt, hsz, hblk⟩, hb⟩
            refine ⟨?_, hb⟩
            cases TOT with
            | none =>
              have he : Ending.returned (.tuple #[.slice a m c, .string r, .bool ok]) = .returned (.tuple #[.slice none 0 0, .string ⟨#[]⟩, .bool false]) := hpv
              simp only [Ending.returned.injEq, Value.tuple.injEq, Array.mk.injEq, List.cons.injEq, Value.bool.injEq] at he
              obtain ⟨_, _, rfl, _⟩ := he
              exact ⟨_, _, _, _, _, _, _, _, _, _, _, rfl⟩
            | some pr =>
              obtain ⟨ps, rest⟩ := pr
              obtain ⟨v, r', he, hr, hts⟩ := hpv
              simp only [Ending.returned.injEq, Value.tuple.injEq, Array.mk.injEq, List.cons.injEq, Value.bool.injEq, Value.string.injEq] at he
              obtain ⟨rfl, rfl, rfl, _⟩ := he
              refine ⟨_, _, rfl, hr, hts.congr (fun b hb' => ⟨by omega, by rw [hsz]; exact hb'.2⟩) (fun b hb' => hblk b (by omega))⟩
        · omega

theorem pt_all : ∀ k, k ≤ 9 → PtSaid k := by
  intro k
  induction k with
  | zero => intro _; exact pt_zero
  | succ k ih => intro h; exact pt_succ k h (pp_of_pt k (by omega) (ih (by omega)))

/-- What Parse leaves. -/
def parseRes (w w' : World) (e : Ending) : Option Orch.Ty → Prop
  | none => ∃ (a b c d f : Int) (x : Bool) (g : Int) (p : Option Addr) (m n : Nat), e = .returned (.tuple #[tyv a b c d f x g (.slice p m n), .bool false])
  | some t => ∃ psv, e = .returned (.tuple #[tval t.l psv, .bool true]) ∧ TsAt w' (fun b => w.heap.size ≤ b ∧ b < w'.heap.size) t.ps psv

set_option maxRecDepth 8000 in
set_option maxHeartbeats 1000000 in
theorem parse_long (w : World) (s : ByteArray) (h : 64 < s.size) : Calls Tryd.prog 19 #[.string s] w fun e w' => parseRes w w' e none ∧ Below w.heap.size w w' := by
  have hz : (64 : Int) < (s.size : Int) := by omega
  go_enter Tryd.func19, Tryd.ntmps19
  go_wp2
  exact bodyPost_ret (v := .tuple #[tyv 0 0 0 0 0 false 0 (.slice none 0 0), .bool false]) (by simp [results, Tryd.results19, go_sem]) rfl ⟨⟨_, _, _, _, _, _, _, _, _, _, rfl⟩, below1 _ _⟩

set_option maxRecDepth 8000 in
set_option maxHeartbeats 1000000 in
theorem parse_false (w : World) (s : ByteArray) (h : s.size ≤ 64)
    (HC : Hid (Calls Tryd.prog 31 #[.string s, .int .i64 0] (w.alloc (.cells #[.int .u8 0, .int .i64 0, .int .i64 0, .int .i64 0, .int .i64 0, .bool false, .int .u8 0, .slice none 0 0] 62)) fun e w' => noType e ∧ Below (w.alloc (.cells #[.int .u8 0, .int .i64 0, .int .i64 0, .int .i64 0, .int .i64 0, .bool false, .int .u8 0, .slice none 0 0] 62)).heap.size (w.alloc (.cells #[.int .u8 0, .int .i64 0, .int .i64 0, .int .i64 0, .int .i64 0, .bool false, .int .u8 0, .slice none 0 0] 62)) w')) :
    Calls Tryd.prog 19 #[.string s] w fun e w' => parseRes w w' e none ∧ Below w.heap.size w w' := by
  have hz : ¬ (64 : Int) < (s.size : Int) := by omega
  have N0 := hide (heap_alloc_new w (.cells #[.int .u8 0, .int .i64 0, .int .i64 0, .int .i64 0, .int .i64 0, .bool false, .int .u8 0, .slice none 0 0] 62))
  go_enter Tryd.func19, Tryd.ntmps19
  go_wp2_with (first
    | (refine wpList_store_row rfl 62 _ _ rfl w.heap.size #[.int .u8 0, .int .i64 0, .int .i64 0, .int .i64 0, .int .i64 0, .bool false, .int .u8 0, .slice none 0 0] rfl rfl 62 _ HH2.out Tryd.size62 rfl (one_ty _ _ _ _ _ _ _ _ _ _) ?_)
    | (go_at_call 31; refine HC.out.mono ?_; rintro e w1 ⟨⟨a, b, c, d, f, x, g, p, m, n, r, rfl⟩, hb1⟩; have HB1 : Hid (Below w.heap.size w w1) := (below1 _ _).trans (hb1.mono (by simp)); have HH : Hid (w1.heap[w.heap.size]? = some (.cells #[.int .u8 0, .int .i64 0, .int .i64 0, .int .i64 0, .int .i64 0, .bool false, .int .u8 0, .slice none 0 0] 62)) := (hb1.block _ (ltOf N0.out)).trans N0.out; have HH2 : Hid ((w1.alloc (.cells #[.int .u8 a, .int .i64 b, .int .i64 c, .int .i64 d, .int .i64 f, .bool x, .int .u8 g, .slice p m n] 62)).heap[w.heap.size]? = some (.cells #[.int .u8 0, .int .i64 0, .int .i64 0, .int .i64 0, .int .i64 0, .bool false, .int .u8 0, .slice none 0 0] 62)) := (Below.heap_alloc _ _ _ (ltOf HH.out)).trans HH.out; clear hb1))
  refine bp_gen (fun X => X.heap[w.heap.size]? = some (.cells #[.int .u8 0, .int .i64 0, .int .i64 0, .int .i64 0, .int .i64 0, .bool false, .int .u8 0, .slice none 0 0] 62) ∧ Below w.heap.size w X) ⟨setRow_heap _ _ _ _ _ _ HH2.out, below_setRow (HB1.out.alloc HB1.out.size _) (Nat.le_refl _) _⟩ ?_
  rintro X ⟨HQ, hbX⟩
  have c0 := cellOf (j := 0) HQ rfl
  have c1 := cellOf (j := 1) HQ rfl
  have c2 := cellOf (j := 2) HQ rfl
  have c3 := cellOf (j := 3) HQ rfl
  have c4 := cellOf (j := 4) HQ rfl
  have c5 := cellOf (j := 5) HQ rfl
  have c6 := cellOf (j := 6) HQ rfl
  have c7 := cellOf (j := 7) HQ rfl
  exact bodyPost_ret (v := .tuple #[tyv 0 0 0 0 0 false 0 (.slice none 0 0), .bool false]) (by simp [results, Tryd.results19, go_sem, c0, c1, c2, c3, c4, c5, c6, c7]) rfl ⟨⟨_, _, _, _, _, _, _, _, _, _, rfl⟩, hbX⟩

set_option maxRecDepth 8000 in
set_option maxHeartbeats 1000000 in
theorem parse_rest (w : World) (s : ByteArray) (h : s.size ≤ 64)
    (HC : Hid (Calls Tryd.prog 31 #[.string s, .int .i64 0] (w.alloc (.cells #[.int .u8 0, .int .i64 0, .int .i64 0, .int .i64 0, .int .i64 0, .bool false, .int .u8 0, .slice none 0 0] 62)) fun e w' => (∃ (a b c d f : Int) (x : Bool) (g : Int) (p : Option Addr) (m n : Nat) (r : ByteArray), e = .returned (.tuple #[tyv a b c d f x g (.slice p m n), .string r, .bool true]) ∧ r.size ≠ 0) ∧ Below (w.alloc (.cells #[.int .u8 0, .int .i64 0, .int .i64 0, .int .i64 0, .int .i64 0, .bool false, .int .u8 0, .slice none 0 0] 62)).heap.size (w.alloc (.cells #[.int .u8 0, .int .i64 0, .int .i64 0, .int .i64 0, .int .i64 0, .bool false, .int .u8 0, .slice none 0 0] 62)) w')) :
    Calls Tryd.prog 19 #[.string s] w fun e w' => parseRes w w' e none ∧ Below w.heap.size w w' := by
  have hz : ¬ (64 : Int) < (s.size : Int) := by omega
  have N0 := hide (heap_alloc_new w (.cells #[.int .u8 0, .int .i64 0, .int .i64 0, .int .i64 0, .int .i64 0, .bool false, .int .u8 0, .slice none 0 0] 62))
  go_enter Tryd.func19, Tryd.ntmps19
  go_wp2_with (first
    | (refine wpList_store_row rfl 62 _ _ rfl w.heap.size #[.int .u8 0, .int .i64 0, .int .i64 0, .int .i64 0, .int .i64 0, .bool false, .int .u8 0, .slice none 0 0] rfl rfl 62 _ HH2.out Tryd.size62 rfl (one_ty _ _ _ _ _ _ _ _ _ _) ?_)
    | (go_at_call 31; refine HC.out.mono ?_; rintro e w1 ⟨⟨a, b, c, d, f, x, g, p, m, n, r, rfl, hr⟩, hb1⟩; have HB1 : Hid (Below w.heap.size w w1) := (below1 _ _).trans (hb1.mono (by simp)); have HH : Hid (w1.heap[w.heap.size]? = some (.cells #[.int .u8 0, .int .i64 0, .int .i64 0, .int .i64 0, .int .i64 0, .bool false, .int .u8 0, .slice none 0 0] 62)) := (hb1.block _ (ltOf N0.out)).trans N0.out; have HH2 : Hid ((w1.alloc (.cells #[.int .u8 a, .int .i64 b, .int .i64 c, .int .i64 d, .int .i64 f, .bool x, .int .u8 g, .slice p m n] 62)).heap[w.heap.size]? = some (.cells #[.int .u8 0, .int .i64 0, .int .i64 0, .int .i64 0, .int .i64 0, .bool false, .int .u8 0, .slice none 0 0] 62)) := (Below.heap_alloc _ _ _ (ltOf HH.out)).trans HH.out; have hne : ¬ r.toList = [] := fun h => hr ((toList_nil r).1 h); have hnB : (r.toList == []) = false := (by simpa using hne); clear hb1 hr))
  refine bp_gen (fun X => X.heap[w.heap.size]? = some (.cells #[.int .u8 0, .int .i64 0, .int .i64 0, .int .i64 0, .int .i64 0, .bool false, .int .u8 0, .slice none 0 0] 62) ∧ Below w.heap.size w X) ⟨setRow_heap _ _ _ _ _ _ HH2.out, below_setRow (HB1.out.alloc HB1.out.size _) (Nat.le_refl _) _⟩ ?_
  rintro X ⟨HQ, hbX⟩
  have c0 := cellOf (j := 0) HQ rfl
  have c1 := cellOf (j := 1) HQ rfl
  have c2 := cellOf (j := 2) HQ rfl
  have c3 := cellOf (j := 3) HQ rfl
  have c4 := cellOf (j := 4) HQ rfl
  have c5 := cellOf (j := 5) HQ rfl
  have c6 := cellOf (j := 6) HQ rfl
  have c7 := cellOf (j := 7) HQ rfl
  exact bodyPost_ret (v := .tuple #[tyv 0 0 0 0 0 false 0 (.slice none 0 0), .bool false]) (by simp [results, Tryd.results19, go_sem, c0, c1, c2, c3, c4, c5, c6, c7]) rfl ⟨⟨_, _, _, _, _, _, _, _, _, _, rfl⟩, hbX⟩

set_option maxRecDepth 8000 in
set_option maxHeartbeats 1000000 in
theorem parse_ok' (w : World) (s : ByteArray) (h : s.size ≤ 64) (a b c d f : Int) (x : Bool) (g : Int) (pv : Option Addr → Nat → Nat → World → Prop)
    (HC : Hid (Calls Tryd.prog 31 #[.string s, .int .i64 0] (w.alloc (.cells #[.int .u8 0, .int .i64 0, .int .i64 0, .int .i64 0, .int .i64 0, .bool false, .int .u8 0, .slice none 0 0] 62)) fun e w' => (∃ (p : Option Addr) (m n : Nat) (r : ByteArray), e = .returned (.tuple #[tyv a b c d f x g (.slice p m n), .string r, .bool true]) ∧ r.size = 0 ∧ pv p m n w') ∧ Below (w.alloc (.cells #[.int .u8 0, .int .i64 0, .int .i64 0, .int .i64 0, .int .i64 0, .bool false, .int .u8 0, .slice none 0 0] 62)).heap.size (w.alloc (.cells #[.int .u8 0, .int .i64 0, .int .i64 0, .int .i64 0, .int .i64 0, .bool false, .int .u8 0, .slice none 0 0] 62)) w')) :
    Calls Tryd.prog 19 #[.string s] w fun e w' => (∃ p m n wb, e = .returned (.tuple #[tyv a b c d f x g (.slice p m n), .bool true]) ∧ pv p m n wb ∧ wb.heap.size ≤ w'.heap.size ∧ ∀ k, w.heap.size < k → k < wb.heap.size → w'.heap[k]? = wb.heap[k]?) ∧ Below w.heap.size w w' := by
  have hz : ¬ (64 : Int) < (s.size : Int) := by omega
  have N0 := hide (heap_alloc_new w (.cells #[.int .u8 0, .int .i64 0, .int .i64 0, .int .i64 0, .int .i64 0, .bool false, .int .u8 0, .slice none 0 0] 62))
  go_enter Tryd.func19, Tryd.ntmps19
  go_wp2_with (first
    | (refine wpList_store_row rfl 62 _ _ rfl w.heap.size #[.int .u8 a, .int .i64 b, .int .i64 c, .int .i64 d, .int .i64 f, .bool x, .int .u8 g, .slice p m n] rfl rfl 62 _ HH2.out Tryd.size62 rfl (one_ty _ _ _ _ _ _ _ _ _ _) ?_)
    | (go_at_call 31; refine HC.out.mono ?_; rintro e w1 ⟨⟨p, m, n, r, rfl, hr, hpv⟩, hb1⟩; have HB1 : Hid (Below w.heap.size w w1) := (below1 _ _).trans (hb1.mono (by simp)); have HH : Hid (w1.heap[w.heap.size]? = some (.cells #[.int .u8 0, .int .i64 0, .int .i64 0, .int .i64 0, .int .i64 0, .bool false, .int .u8 0, .slice none 0 0] 62)) := (hb1.block _ (ltOf N0.out)).trans N0.out; have HH2 : Hid ((w1.alloc (.cells #[.int .u8 a, .int .i64 b, .int .i64 c, .int .i64 d, .int .i64 f, .bool x, .int .u8 g, .slice p m n] 62)).heap[w.heap.size]? = some (.cells #[.int .u8 0, .int .i64 0, .int .i64 0, .int .i64 0, .int .i64 0, .bool false, .int .u8 0, .slice none 0 0] 62)) := (Below.heap_alloc _ _ _ (ltOf HH.out)).trans HH.out; have hnil : r.toList = [] := (toList_nil r).2 hr; have HPV := hide hpv; clear hb1 hr hpv))
  refine bp_gen (fun X => X.heap[w.heap.size]? = some (.cells #[.int .u8 a, .int .i64 b, .int .i64 c, .int .i64 d, .int .i64 f, .bool x, .int .u8 g, .slice p m n] 62) ∧ Below w.heap.size w X ∧ w1.heap.size ≤ X.heap.size ∧ ∀ k, w.heap.size < k → k < w1.heap.size → X.heap[k]? = w1.heap[k]?) ⟨setRow_heap _ _ _ _ _ _ HH2.out, below_setRow (HB1.out.alloc HB1.out.size _) (Nat.le_refl _) _, by simp, fun k h1 h2 => (setRow_other _ _ _ _ (by omega)).trans (Below.heap_alloc _ _ _ h2)⟩ ?_
  rintro X ⟨HQ, hbX, hsX, hkX⟩
  have HS := hide hsX
  have HKX := hide hkX
  clear hsX hkX
  have c0 := cellOf (j := 0) HQ rfl
  have c1 := cellOf (j := 1) HQ rfl
  have c2 := cellOf (j := 2) HQ rfl
  have c3 := cellOf (j := 3) HQ rfl
  have c4 := cellOf (j := 4) HQ rfl
  have c5 := cellOf (j := 5) HQ rfl
  have c6 := cellOf (j := 6) HQ rfl
  have c7 := cellOf (j := 7) HQ rfl
  exact bodyPost_ret (v := .tuple #[tyv a b c d f x g (.slice p m n), .bool true]) (by simp [results, Tryd.results19, go_sem, c0, c1, c2, c3, c4, c5, c6, c7]) rfl ⟨⟨p, m, n, w1, rfl, HPV.out, HS.out, HKX.out⟩, hbX⟩

/-- Parse: every text. -/
theorem parse_any (w : World) (s : ByteArray) (hT : Table w) : Calls Tryd.prog 19 #[.string s] w fun e w' => parseRes w w' e (Orch.parse s.data.toList) ∧ Below w.heap.size w w' := by
  unfold Orch.parse
  by_cases h : 64 < s.size
  · rw [if_pos (by rw [← Lib.size_eq]; exact h)]
    exact parse_long w s h
  · rw [if_neg (by rw [← Lib.size_eq]; exact h)]
    have hT1 : Table (w.alloc (.cells #[.int .u8 0, .int .i64 0, .int .i64 0, .int .i64 0, .int .i64 0, .bool false, .int .u8 0, .slice none 0 0] 62)) := hT.below (below1 _ _) hT.pos
    have h19 := pt_all 9 (by omega) (w.alloc (.cells #[.int .u8 0, .int .i64 0, .int .i64 0, .int .i64 0, .int .i64 0, .bool false, .int .u8 0, .slice none 0 0] 62)) s 0 hT1 (by omega) (by omega)
    cases hp : Orch.ptype 9 s.data.toList with
    | none =>
      rw [hp] at h19
      exact parse_false w s (by omega) h19
    | some tr =>
      obtain ⟨t, rest⟩ := tr
      rw [hp] at h19
      cases rest with
      | cons y ys =>
        refine parse_rest w s (by omega) (h19.mono ?_)
        rintro e w' ⟨⟨psv, r, rfl, hr, hts⟩, hb⟩
        obtain ⟨pa, pc, rfl⟩ := hts.shape
        exact ⟨⟨_, _, _, _, _, _, _, _, _, _, r, rfl, by rw [Lib.size_eq, hr]; simp⟩, hb⟩
      | nil =>
        refine (parse_ok' w s (by omega) t.l.sign.toNat t.l.shape t.l.size t.l.least t.l.most t.l.text t.l.fin.toNat (fun p m n w' => TsAt w' (fun b => w.heap.size + 1 ≤ b ∧ b < w'.heap.size) t.ps (.slice p m n)) (h19.mono ?_)).mono ?_
        · rintro e w' ⟨⟨psv, r, rfl, hr, hts⟩, hb⟩
          obtain ⟨pa, pc, rfl⟩ := hts.shape
          exact ⟨⟨pa, _, pc, r, rfl, by rw [Lib.size_eq, hr]; rfl, by simpa using hts⟩, hb⟩
        · rintro e w' ⟨⟨p, m, n, wb, rfl, hpv, hs1, hk1⟩, hb⟩
          exact ⟨⟨_, rfl, hpv.congr (fun b hb' => ⟨by omega, by omega⟩) (fun b hb' => hk1 b (by omega) hb'.2)⟩, hb⟩
end Go.Proofs.YtbnoghkijgmcgaaDoor
