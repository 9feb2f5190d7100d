/- The caller's step: Decode. -/
import Derived.Test.YtlghcldiboecoaaGreatDoorDDec
import Derived.Test.YtlghcldiboecoaaGreatDoorDVals
import Derived.Test.YtlghcldiboecoaaGreatDoorDSame
import Derived.Test.YtlghcldiboecoaaGreatDoorKAny
set_option linter.unusedVariables false
namespace Go.Proofs.YtlghcldiboecoaaGreatDoor
open Go.RowKit

theorem below_bytes (W : World) (s : ByteArray) : Below W.heap.size W (Lib.bytesWorld W 5 s) :=
  ⟨rfl, rfl, rfl, by rw [Lib.bytesWorld_size]; omega, fun k hk => Lib.bytesWorld_at_old W 5 s k hk⟩

theorem bytes_at (W : World) (s : ByteArray) : BsAt (Lib.bytesWorld W 5 s) (.slice (some ⟨W.heap.size, 0, none⟩) s.size (grownCap W s.size 0 5)) s.data.toList := by
  refine ⟨W.heap.size, 0, grownCap W s.size 0 5, by rw [Lib.size_eq], by rw [← Lib.size_eq]; exact grownCap_ge _ _ _ _, by rw [Lib.bytesWorld_size]; omega, fun i hi => ?_⟩
  rw [Nat.zero_add, Lib.bytesWorld_cell W 5 s i (by rw [Lib.size_eq]; exact hi), List.getD_eq_getElem?_getD, List.getElem?_eq_getElem hi]
  rfl

/-- What Decode told. -/
def DTold (r : Except Nat Orch.V) (v : Orch.V) (lv : Value) (code : Nat) : Prop := (r = .error code ∧ v = .mk 0 ⟨#[]⟩ [] ∧ lv = .slice none 0 0) ∨ (r = .ok v ∧ code = 0)

theorem DTold.same {r : Except Nat Orch.V} {v v' : Orch.V} {lv lv' : Value} {c c' : Nat} (h : DTold r v lv c) (h' : DTold r v' lv' c') : c' = c ∧ v' = v := by
  rcases h with ⟨h1, h2, _⟩ | ⟨h1, h2⟩ <;> rcases h' with ⟨k1, k2, _⟩ | ⟨k1, k2⟩
  · rw [h1] at k1; cases k1; exact ⟨rfl, by rw [h2, k2]⟩
  · rw [h1] at k1; cases k1
  · rw [h1] at k1; cases k1
  · rw [h1] at k1; cases k1; exact ⟨by rw [h2, k2], rfl⟩

theorem dres2 {w w' : World} {e : Ending} {r : Except Nat Orch.V} (h : dRes w w' e r) :
    ∃ (v : Orch.V) (la : Option Addr) (lc : Nat) (code : Nat), e = .returned (.tuple #[vval v (.slice la v.l.length lc), .int .i64 code]) ∧ OwnV w.heap.size w' v.l (.slice la v.l.length lc) ∧ DTold r v (.slice la v.l.length lc) code := by
  cases r with
  | error c => exact ⟨.mk 0 ⟨#[]⟩ [], none, 0, c, h, OwnV.nil _ _, .inl ⟨rfl, rfl, rfl⟩⟩
  | ok v =>
    obtain ⟨lv, he, ho⟩ := h
    obtain ⟨la, lc, rfl⟩ := OwT.shape ho
    exact ⟨v, la, lc, 0, he, ho, .inr ⟨rfl, rfl⟩⟩

theorem lent_bs {W : World} {g : Nat} (s : ByteArray) (h : W.heap[g]? = some (.cells (lb s 3).toArray 5)) : BsAt W (.slice (some ⟨g, 0, none⟩) s.size (s.size + 3)) s.data.toList := by
  refine ⟨g, 0, s.size + 3, by rw [Lib.size_eq], by rw [← Lib.size_eq]; omega, ltOf h, fun i hi => ?_⟩
  rw [Nat.zero_add]
  refine cellOf h ?_
  rw [List.getElem?_toArray, lb, List.getElem?_append_left (by rw [bcells_len]; exact hi)]
  rw [bcells, List.getElem?_map, List.getElem?_eq_getElem hi]
  rfl

theorem lb_zero (s : ByteArray) : ∃ z, (lb s 3).toArray[0]? = some (.int .u8 z) := by
  rw [List.getElem?_toArray]
  unfold lb
  by_cases h : s.size = 0
  · have h0 : s.data.toList = [] := List.length_eq_zero_iff.1 (by rw [← Lib.size_eq]; exact h)
    rw [h0]
    exact ⟨_, rfl⟩
  · rw [List.getElem?_append_left (by rw [bcells_size]; omega), bcells, List.getElem?_map, List.getElem?_eq_getElem (by rw [← Lib.size_eq]; omega)]
    exact ⟨_, rfl⟩

theorem keepv_step {w W8 : World} {WB B N bc lo hi : Nat} {gv gt lv : Value} {ba : Option Addr} {flat : List Value} {oc : Array Value} {vs : List Orch.V} {t : ByteArray} (hbk : Bv w WB B (fun _ => True) gv gt N ba bc flat) (hN : N ≤ 50000000000) (hlow : Below w.heap.size w W8)
    (hlb : W8.heap[w.heap.size + 1]? = some (.cells (lb t 3).toArray 5)) (hoc : W8.heap[w.heap.size]? = some (.cells oc 76)) (hlo : w.heap.size + 2 ≤ lo) (hhi : hi ≤ W8.heap.size) (hot : OwT W8 lo hi vs lv) (hcnt : cntL vs ≤ 9990) (ht : t.size ≤ 4000000) :
    Calls Tryz.prog 91 #[.pointer (some ⟨WB, 4, none⟩), lv] W8 fun e w9 => e = .returned (.tuple #[]) ∧ w9.heap[w.heap.size]? = some (.cells oc 76) ∧
      Calls Tryz.prog 92 #[.slice (some ⟨w.heap.size + 1, 0, none⟩) t.size (t.size + 3), .string t] w9 fun e w10 => e = .returned (.bool true) ∧ (∃ N' ba' bc' flat', N' ≤ N + 10000 ∧ Bv w10 WB B (fun _ => True) gv gt N' ba' bc' flat') ∧ Fr w w10 WB (Value.slice ba N bc).ownBlock := by
  have hWB := ltOf hbk.blk
  have hle := hbk.le
  have hlt := hbk.lt
  have hR : ∀ g, (Value.slice ba N bc).ownBlock = some g → g < w.heap.size := fun g hg => (hbk.row.lt g hg).2
  have hb8 : Bv W8 WB B (fun b => b < w.heap.size) gv gt N ba bc flat := (hbk.mono (S' := fun b => b < w.heap.size) (fun b _ h => h)).keep (fun _ => False) hlow.size (fun i hi _ => hlow.block i hi) (fun _ h => h.elim) (fun _ h _ => h) (fun h => h) (fun _ _ h => h)
  have hs8 : w.heap.size + 1 < W8.heap.size := ltOf hlb
  refine (kv_any hot W8 WB B (fun b => b < w.heap.size) gv gt N ba bc flat (fun _ _ _ => rfl) hhi (by omega) hb8 (fun b h1 h2 => by omega) hcnt (by omega)).mono ?_
  rintro e w9 ⟨rfl, hkd⟩
  have hsame : ∀ i, i < W8.heap.size → i ≠ WB → (Value.slice ba N bc).ownBlock ≠ some i → ¬ (lo ≤ i ∧ i < hi) → w9.heap[i]? = W8.heap[i]? := hkd.block
  have ho9 : w9.heap[w.heap.size]? = some (.cells oc 76) := (hsame _ (by omega) (by omega) (fun e => by have := hR _ e; omega) (by omega)).trans hoc
  have hl9 : w9.heap[w.heap.size + 1]? = some (.cells (lb t 3).toArray 5) := (hsame _ (by omega) (by omega) (fun e => by have := hR _ e; omega) (by omega)).trans hlb
  refine ⟨rfl, ho9, (wholeBytes_any w9 t (w.heap.size + 1) ht hl9).mono ?_⟩
  rintro e w10 ⟨rfl, hgr⟩
  obtain ⟨ba', bc', flat', hbv, htr⟩ := hkd.bk
  have hne : ∀ g, (Value.slice ba' (N + 1 + cntL vs) bc').ownBlock = some g → g ≠ w.heap.size + 1 := by
    intro g hg
    rcases htr with e | ⟨g', e, hg'⟩
    · have := hR g (e.symm.trans hg)
      omega
    · rw [e] at hg
      cases hg
      omega
  refine ⟨rfl, ⟨_, ba', bc', flat', by omega, hbv.keep (fun b => b = w.heap.size + 1) hgr.size (fun i hi hb => hgr.block i hi (fun e => hb (by cases e; rfl))) (fun b hb _ z e => ?_) (fun _ _ _ => trivial) (by omega) hne⟩, ?_⟩
  · subst hb
    obtain ⟨z', hz⟩ := lb_zero t
    have := cellOf (j := 0) hl9 hz
    rw [this] at e
    cases e
  · refine ⟨hgr.os.trans (hkd.os.trans hlow.os), hgr.tape.trans (hkd.tape.trans hlow.tape), hgr.output.trans (hkd.output.trans hlow.output), Nat.le_trans hlow.size (Nat.le_trans hkd.size hgr.size), fun b h1 h2 h3 => ?_⟩
    have h9 := hkd.size
    exact (hgr.block b (by omega) (fun e => by cases e; omega)).trans ((hsame b (by omega) h2 h3 (by omega)).trans (hlow.block b h1))

set_option maxRecDepth 8000 in
set_option maxHeartbeats 1000000 in
theorem codes_dec (w : World) (WB B : Nat) (gv gt : Value) (N : Nat) (ba : Option Addr) (bc : Nat) (flat : List Value) (a b c : Int) (s t : ByteArray)
    (hbk : Bv w WB B (fun _ => True) gv gt N ba bc flat) (hN : N ≤ 50000000000) (hTabs : Lib.Utf8Tabs 6 7 w) (hTab : Table w) (hWB : gTop ≤ WB) (hs : s.size ≤ 140737488355328) (ht : t.size ≤ 4000000) :
    Calls Tryz.prog 52 #[.pointer (some ⟨WB, 0, none⟩), opv 2 a b c s t] w fun e w' => e = .returned (.bool true) ∧ (∃ N' ba' bc' flat', N' ≤ N + 10000 ∧ Bv w' WB B (fun _ => True) gv gt N' ba' bc' flat') ∧ Fr w w' WB (Value.slice ba N bc).ownBlock := by
  have hbl := below1 w (.cells #[.int .i64 2, .int .i64 a, .int .i64 b, .int .i64 c, .string s, .string t] 76)
  have hob := heap_alloc_new w (.cells #[.int .i64 2, .int .i64 a, .int .i64 b, .int .i64 c, .string s, .string t] 76)
  have o0 := cellOf (j := 0) hob rfl
  have o4 := cellOf (j := 4) hob rfl
  have o5 := cellOf (j := 5) hob rfl
  have HBK := hid hbk
  have HBL := hid hbl
  have HOB := hid hob
  have HTA := hid hTabs
  have HTB := hid hTab
  have HLB := hid (lentBytes_any (w.alloc (.cells #[.int .i64 2, .int .i64 a, .int .i64 b, .int .i64 c, .string s, .string t] 76)) t ht)
  rw [show (w.alloc (.cells #[.int .i64 2, .int .i64 a, .int .i64 b, .int .i64 c, .string s, .string t] 76)).heap.size = w.heap.size + 1 by simp] at HLB
  have htl : t.data.toList.length ≤ 4000000 := by rw [← Lib.size_eq]; exact ht
  have H87 : Hid (∀ w2 : World, w2.heap[w.heap.size + 1]? = some (.cells (lb t 3).toArray 5) → Below (w.heap.size + 1) (w.alloc (.cells #[.int .i64 2, .int .i64 a, .int .i64 b, .int .i64 c, .string s, .string t] 76)) w2 →
      Hid (w2.heap[w.heap.size]? = some (.cells #[.int .i64 2, .int .i64 a, .int .i64 b, .int .i64 c, .string s, .string t] 76)) ∧ Hid (Below w.heap.size w w2) ∧
      Hid (Calls Tryz.prog 88 #[.string s, .slice (some ⟨w.heap.size + 1, 0, none⟩) t.size (t.size + 3)] w2 fun e w3 => dRes w2 w3 e (Orch.decode validB s.data.toList t.data.toList) ∧ Below w2.heap.size w2 w3)) := by
    intro w2 hlb hb2
    have hb : Below w.heap.size w w2 := HBL.out.trans (hb2.mono (Nat.le_succ _))
    have hWBw := ltOf HBK.out.blk
    exact ⟨(hb2.block _ (by omega)).trans HOB.out, hb, decode_any utf w2 (utf.kept (by omega) hb HTA.out) (HTB.out.below hb (by unfold gTop at hWB; omega)) s _ t.data.toList (by omega) (lent_bs t hlb)⟩
  have H88 : Hid (∀ (w2 w3 : World) (v : Orch.V) (la : Option Addr) (lc : Nat), w2.heap[w.heap.size]? = some (.cells #[.int .i64 2, .int .i64 a, .int .i64 b, .int .i64 c, .string s, .string t] 76) → Below w2.heap.size w2 w3 →
      Hid ((w3.alloc (.cells #[.int .i64 v.n, .string v.s, .slice la v.l.length lc] 113)).heap[w.heap.size]? = some (.cells #[.int .i64 2, .int .i64 a, .int .i64 b, .int .i64 c, .string s, .string t] 76)) ∧
      Hid (Calls Tryz.prog 89 #[.string s, .slice (some ⟨w3.heap.size + 1, 0, none⟩) t.size (grownCap (w3.alloc (.cells #[.int .i64 v.n, .string v.s, .slice la v.l.length lc] 113)) t.size 0 5)] (Lib.bytesWorld (w3.alloc (.cells #[.int .i64 v.n, .string v.s, .slice la v.l.length lc] 113)) 5 t) fun e w6 => dRes2 (Lib.bytesWorld (w3.alloc (.cells #[.int .i64 v.n, .string v.s, .slice la v.l.length lc] 113)) 5 t) w6 e (Orch.decode validB s.data.toList t.data.toList) ∧ Below (Lib.bytesWorld (w3.alloc (.cells #[.int .i64 v.n, .string v.s, .slice la v.l.length lc] 113)) 5 t).heap.size (Lib.bytesWorld (w3.alloc (.cells #[.int .i64 v.n, .string v.s, .slice la v.l.length lc] 113)) 5 t) w6)) := by
    intro w2 w3 v la lc ho hb
    have h1 := (hb.block _ (ltOf ho)).trans ho
    exact ⟨(Below.heap_alloc _ _ _ (ltOf h1)).trans h1, refDecode_any _ s hs _ t.data.toList (by omega) (by have h2 := bytes_at (w3.alloc (.cells #[.int .i64 v.n, .string v.s, .slice la v.l.length lc] 113)) t; rw [show (w3.alloc (.cells #[.int .i64 v.n, .string v.s, .slice la v.l.length lc] 113)).heap.size = w3.heap.size + 1 by simp] at h2; exact h2)⟩
  have hconv : ∀ W, (convert 9 57 (.string t)).run Tryz.prog W = .ok (.slice (some ⟨W.heap.size, 0, none⟩) t.size (grownCap W t.size 0 5)) (Lib.bytesWorld W 5 t) := fun W => Lib.run_convert_string_bytes W 9 57 5 t Tryz.underlying9 Tryz.underlying57 Tryz.underlying5
  have HDC : Hid (∀ v, Orch.decode validB s.data.toList t.data.toList = .ok v → cntL v.l ≤ 9990) := fun v h => cnt_dec h
  have HDE : Hid (∀ c, Orch.decode validB s.data.toList t.data.toList = .error c → c ≤ 3 ∧ 1 ≤ c) := fun c h => dec_code h
  generalize Orch.decode validB s.data.toList t.data.toList = D at *
  have H89 : Hid (∀ (w2 w3 w6 : World) (v : Orch.V) (la la' : Option Addr) (lc lc' code : Nat), w2.heap[w.heap.size + 1]? = some (.cells (lb t 3).toArray 5) → Below w.heap.size w w2 → w2.heap[w.heap.size]? = some (.cells #[.int .i64 2, .int .i64 a, .int .i64 b, .int .i64 c, .string s, .string t] 76) → Below w2.heap.size w2 w3 → OwnV w2.heap.size w3 v.l (.slice la v.l.length lc) → DTold D v (.slice la v.l.length lc) code → (∀ v, D = .ok v → InV v) →
      Below (Lib.bytesWorld (w3.alloc (.cells #[.int .i64 v.n, .string v.s, .slice la v.l.length lc] 113)) 5 t).heap.size (Lib.bytesWorld (w3.alloc (.cells #[.int .i64 v.n, .string v.s, .slice la v.l.length lc] 113)) 5 t) w6 → OwnV (Lib.bytesWorld (w3.alloc (.cells #[.int .i64 v.n, .string v.s, .slice la v.l.length lc] 113)) 5 t).heap.size w6 v.l (.slice la' v.l.length lc') →
      Hid ((w6.alloc (.cells #[.int .i64 v.n, .string v.s, .slice la' v.l.length lc'] 113)).heap[w3.heap.size]? = some (.cells #[.int .i64 v.n, .string v.s, .slice la v.l.length lc] 113)) ∧ Hid ((w6.alloc (.cells #[.int .i64 v.n, .string v.s, .slice la' v.l.length lc'] 113)).heap[w6.heap.size]? = some (.cells #[.int .i64 v.n, .string v.s, .slice la' v.l.length lc'] 113)) ∧
      Hid (Calls Tryz.prog 90 #[vv v.n v.s (.slice la v.l.length lc), vv v.n v.s (.slice la' v.l.length lc')] (w6.alloc (.cells #[.int .i64 v.n, .string v.s, .slice la' v.l.length lc'] 113)) fun e w' => e = .returned (.bool true) ∧ Below (w6.alloc (.cells #[.int .i64 v.n, .string v.s, .slice la' v.l.length lc'] 113)).heap.size (w6.alloc (.cells #[.int .i64 v.n, .string v.s, .slice la' v.l.length lc'] 113)) w') ∧
      Hid (∀ W8 : World, Below (w6.alloc (.cells #[.int .i64 v.n, .string v.s, .slice la' v.l.length lc'] 113)).heap.size (w6.alloc (.cells #[.int .i64 v.n, .string v.s, .slice la' v.l.length lc'] 113)) W8 → Hid (W8.heap[w3.heap.size]? = some (.cells #[.int .i64 v.n, .string v.s, .slice la v.l.length lc] 113)) ∧ Hid (Calls Tryz.prog 91 #[.pointer (some ⟨WB, 4, none⟩), .slice la v.l.length lc] W8 fun e w9 => e = .returned (.tuple #[]) ∧ w9.heap[w.heap.size]? = some (.cells #[.int .i64 2, .int .i64 a, .int .i64 b, .int .i64 c, .string s, .string t] 76) ∧
        Calls Tryz.prog 92 #[.slice (some ⟨w.heap.size + 1, 0, none⟩) t.size (t.size + 3), .string t] w9 fun e w10 => e = .returned (.bool true) ∧ (∃ N' ba' bc' flat', N' ≤ N + 10000 ∧ Bv w10 WB B (fun _ => True) gv gt N' ba' bc' flat') ∧ Fr w w10 WB (Value.slice ba N bc).ownBlock))) := by
    intro w2 w3 w6 v la la' lc lc' code hlb hb2 ho2 hb3 hov hto hiv hb6 hov'
    have hb4 := below1 w3 (.cells #[.int .i64 v.n, .string v.s, .slice la v.l.length lc] 113)
    have hv4 := heap_alloc_new w3 (.cells #[.int .i64 v.n, .string v.s, .slice la v.l.length lc] 113)
    have hs4 : (w3.alloc (.cells #[.int .i64 v.n, .string v.s, .slice la v.l.length lc] 113)).heap.size = w3.heap.size + 1 := by simp
    generalize w3.alloc (.cells #[.int .i64 v.n, .string v.s, .slice la v.l.length lc] 113) = W4 at *
    have hb5 := below_bytes W4 t
    generalize Lib.bytesWorld W4 5 t = W5 at *
    have hb7 := below1 w6 (.cells #[.int .i64 v.n, .string v.s, .slice la' v.l.length lc'] 113)
    have hx7 := heap_alloc_new w6 (.cells #[.int .i64 v.n, .string v.s, .slice la' v.l.length lc'] 113)
    generalize w6.alloc (.cells #[.int .i64 v.n, .string v.s, .slice la' v.l.length lc'] 113) = W7 at *
    have h56 : Below W4.heap.size W4 w6 := hb5.trans (hb6.mono hb5.size)
    have h47 : Below W4.heap.size W4 W7 := h56.trans (hb7.mono h56.size)
    have h37 : Below w3.heap.size w3 W7 := hb4.trans (h47.mono hb4.size)
    have h27 : Below w2.heap.size w2 W7 := hb3.trans (h37.mono hb3.size)
    have h07 : Below w.heap.size w W7 := hb2.trans (h27.mono hb2.size)
    have hv7 := (h47.block _ (ltOf hv4)).trans hv4
    have hlen : v.l.length ≤ 140737488351232 ∧ ∀ x, x ∈ v.l → InV x := by
      rcases hto with ⟨_, rfl, _⟩ | ⟨h, _⟩
      · exact ⟨by simp [Orch.V.l], fun x hx => by simp [Orch.V.l] at hx⟩
      · exact (hiv v h).len
    have hcnt : cntL v.l ≤ 9990 := by
      rcases hto with ⟨_, rfl, _⟩ | ⟨h, _⟩
      · simp [Orch.V.l, cntL]
      · exact HDC.out v h
    refine ⟨hv7, hx7, ?_, fun W8 hb8 => ?_⟩
    · refine same_any (OwT.vs hov) hlen.1 hlen.2 W7 _ _ _ (fun b hb => ⟨Nat.lt_of_lt_of_le hb.2 h37.size, h37.block b hb.2⟩) ?_
      exact (OwT.vs hov').congr (fun b hb => Nat.lt_of_lt_of_le hb.2 hb7.size) (fun b hb => hb7.block b hb.2)
    · have h38 : Below w3.heap.size w3 W8 := h37.trans (hb8.mono h37.size)
      have h28 : Below w2.heap.size w2 W8 := h27.trans (hb8.mono h27.size)
      have h08 : Below w.heap.size w W8 := h07.trans (hb8.mono h07.size)
      exact ⟨(hb8.block _ (ltOf hv7)).trans hv7, keepv_step HBK.out hN h08 ((h28.block _ (ltOf hlb)).trans hlb) ((h28.block _ (ltOf ho2)).trans ho2) (ltOf hlb) h38.size (OwT.congr hov (fun b h1 h2 => h38.block b h2)) hcnt ht⟩
  clear hbk hbl hob hTabs hTab
  go_enter Tryz.func52, Tryz.ntmps52
  go_wp2_with (first
    | (go_at_call 87; refine HLB.out.mono ?_; rintro e w2 ⟨rfl, hlb, hb2⟩; clear o0 o4 o5; have HL2 := hid hlb; obtain ⟨HOB2, HLO2, HC88⟩ := H87.out w2 hlb hb2; have p4 := cellOf (j := 4) HOB2.out rfl; have p5 := cellOf (j := 5) HOB2.out rfl; clear hlb hb2)
    | (go_at_call 88; refine HC88.out.mono ?_; rintro e w3 ⟨hd, hb3⟩; obtain ⟨v, la, lc, code, rfl, hov, htold⟩ := dres2 hd; obtain ⟨HOB4, HC89⟩ := H88.out w2 w3 v la lc HOB2.out hb3; clear p4 p5; have p4 := cellOf (j := 4) HOB4.out rfl; have p5 := cellOf (j := 5) HOB4.out rfl; have HB3 := hid hb3; have HOV := hid hov; have HTO := hid htold; have h4c := hconv (w3.alloc (.cells #[.int .i64 v.n, .string v.s, .slice la v.l.length lc] 113)); clear hd hb3 hov htold)
    | (go_at_call 89; refine HC89.out.mono ?_; rintro e w6 ⟨⟨hd, hiv⟩, hb6⟩; obtain ⟨v', la', lc', code', rfl, hov', htold'⟩ := dres2 hd; obtain ⟨rfl, rfl⟩ := HTO.out.same htold'; obtain ⟨HV7, HX7, HC90, HREST⟩ := H89.out w2 w3 w6 v' la la' lc lc' code' HL2.out HLO2.out HOB2.out HB3.out HOV.out HTO.out hiv hb6 hov'; have v0 := cellOf (j := 0) HV7.out rfl; have v1 := cellOf (j := 1) HV7.out rfl; have v2 := cellOf (j := 2) HV7.out rfl; have x0 := cellOf (j := 0) HX7.out rfl; have x1 := cellOf (j := 1) HX7.out rfl; have x2 := cellOf (j := 2) HX7.out rfl; clear hd hb6 hov' htold' hiv p4 p5 h4c))
  have hcz : code' ≤ 3 ∧ (code' = 0 ∨ v'.l.length = 0) := by
    rcases HTO.out with ⟨h, h2, _⟩ | ⟨_, h⟩
    · exact ⟨(HDE.out _ h).1, .inr (by rw [h2]; rfl)⟩
    · exact ⟨by omega, .inl h⟩
  have hc3 := hcz.1
  clear HLB H87 H88 H89 hconv HL2 HOB2 HLO2 HC88 HOB4 HC89 HB3 HOV HTO HX7
  generalize w6.alloc (.cells #[.int .i64 v'.n, .string v'.s, .slice la' v'.l.length lc'] 113) = W7 at *
  refine HC90.out.mono ?_
  rintro e w8 ⟨rfl, hb8⟩
  have y2 := cellOf (j := 2) (HREST.out w8 hb8).1.out rfl
  have HB8 := hid hb8
  have HC91 := hid (fun W8 hb => (HREST.out W8 hb).2.out)
  clear hb8 v0 v1 v2 x0 x1 x2 HREST HC90 HV7
  have hcz2 := hcz.2
  clear hcz
  generalize v'.l.length = mm at *
  by_cases hm0 : mm = 0
  · subst hm0
    clear hcz2
    go_wp2_with (go_at_call 84; refine (num_any _ _ (by omega) (by omega)).mono ?_; rintro e w8' ⟨rfl, hw8⟩; have hw9 := hw8.symm; clear hw8; subst hw9)
    all_goals go_region_with (go_at_call 91; refine (HC91.out _ (by first | exact HB8.out | exact HB8.out.drew | exact HB8.out.drew.drew)).mono ?_; rintro e w9 ⟨rfl, ho9, h92⟩; clear y2; have z5 := cellOf (j := 5) ho9 rfl; have HC92 := hid h92; clear ho9 h92)
    all_goals go_wp2_with (go_at_call 92; refine HC92.out.mono ?_; rintro e w10 ⟨rfl, hbv, hfr⟩; have HBV := hid hbv; have HFR := hid hfr; clear hbv hfr)
    all_goals go_ret
    all_goals exact ⟨rfl, HBV.out, HFR.out⟩
  · have hmz : ((mm : Int) == 0) = false := by rw [beq_eq_false_iff_ne]; omega
    obtain rfl : code' = 0 := by omega
    clear hm0 hcz2 hc3
    go_wp2_with (go_at_call 84; refine (num_any _ _ (by omega) (by omega)).mono ?_; rintro e w8' ⟨rfl, hw8⟩; have hw9 := hw8.symm; clear hw8; subst hw9)
    all_goals go_region_with (go_at_call 91; refine (HC91.out _ (by first | exact HB8.out | exact HB8.out.drew | exact HB8.out.drew.drew)).mono ?_; rintro e w9 ⟨rfl, ho9, h92⟩; clear y2; have z5 := cellOf (j := 5) ho9 rfl; have HC92 := hid h92; clear ho9 h92)
    all_goals go_wp2_with (go_at_call 92; refine HC92.out.mono ?_; rintro e w10 ⟨rfl, hbv, hfr⟩; have HBV := hid hbv; have HFR := hid hfr; clear hbv hfr)
    all_goals go_ret
    all_goals exact ⟨rfl, HBV.out, HFR.out⟩
end Go.Proofs.YtlghcldiboecoaaGreatDoor
