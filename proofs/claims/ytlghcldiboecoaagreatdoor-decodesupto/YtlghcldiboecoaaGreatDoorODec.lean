/- take, whole; Decode of package value. -/
import Derived.Test.YtlghcldiboecoaaGreatDoorTakeA
import Derived.Test.YtlghcldiboecoaaGreatDoorTakeN
import Derived.Test.YtlghcldiboecoaaGreatDoorTakeB
set_option linter.unusedVariables false
namespace Go.Proofs.YtlghcldiboecoaaGreatDoor
open Go.RowKit

def cntEnd (b off cap k n : Nat) (e : Ending) : Prop := ∃ b' off' cap', e = .returned (.tuple #[.int .i64 n, .slice (some ⟨b', off', none⟩) (k - 4) cap', .bool true]) ∧ ((cap = 4 ∧ b' = b ∧ off' = off ∧ cap' = 0) ∨ (¬ cap = 4 ∧ b' = b ∧ off' = off + 4 ∧ cap' = cap - 4))

set_option maxRecDepth 8000 in
set_option maxHeartbeats 400000 in
/-- takeCount: the very slice that is left. -/
theorem takeCount_exact (w : World) (b off cap : Nat) (l : List UInt8) (hl : l.length ≤ 1000) (hcap : l.length ≤ cap) (hb : Bytes w b off l) (most : Nat) (hm : most ≤ 1000) (n : Nat) (rest : List UInt8) (hc : Orch.count l most = some (n, rest)) :
    Calls Tryz.prog 294 #[.slice (some ⟨b, off, none⟩) l.length cap, .int .i64 most] w fun e w' => cntEnd b off cap l.length n e ∧ Below w.heap.size w w' := by
  unfold Orch.count at hc
  split at hc
  · cases hc
  · split at hc
    · cases hc
    · rename_i h4 hu
      simp only [Option.some.injEq, Prod.mk.injEq] at hc
      obtain ⟨rfl, rfl⟩ := hc
      have cU := unsigned_any w b off 4 cap (l.take 4) (by rw [List.length_take]; omega) (by omega) (hb.take 4)
      have h4z : ¬ (l.length : Int) < 4 := by omega
      have hX : Orch.uns (l.take 4) < 4294967296 := by
        have := Orch.uns_lt (l.take 4)
        rw [List.length_take] at this
        rw [show min 4 l.length = 4 by omega] at this
        exact this
      clear hb
      generalize Orch.uns (l.take 4) = X at *
      have huz : ¬ (most : Int) < X := by omega
      generalize l.length = k at *
      go_enter Tryz.func294, Tryz.ntmps294
      go_wp2_with (go_at_call 251; refine cU.mono ?_; rintro e w' ⟨rfl, rfl⟩)
      go_region
      all_goals go_wp2
      all_goals go_ret3
      all_goals first
        | exact ⟨⟨b, off, 0, rfl, Or.inl ⟨rfl, rfl, rfl, rfl⟩⟩, below_drew _⟩
        | exact ⟨⟨b, off + 4, cap - 4, rfl, Or.inr ⟨‹_›, rfl, rfl, rfl⟩⟩, below_drew _⟩

set_option maxRecDepth 8000 in
set_option maxHeartbeats 400000 in
theorem takeNumber_short (w : World) (sg sh sz : Nat) (lo hi : Int) (tx : Bool) (fn : Nat) (pa : Option Addr) (pn pc k cap : Nat) (a : Option Addr) (hk : k ≤ 1000) (hs : sz ≤ 8) (h4 : k < sz) :
    Calls Tryz.prog 292 #[tyv sg sh sz lo hi tx fn (.slice pa pn pc), .slice a k cap] w fun e w' => noneEnd e ∧ Below w.heap.size w w' := by
  have h4z : (k : Int) < (sz : Int) := by omega
  go_enter Tryz.func292, Tryz.ntmps292
  go_wp2
  exact bodyPost_ret (v := .tuple #[vv 0 ⟨#[]⟩ (.slice none 0 0), .slice none 0 0, .bool false]) (by simp [results, Tryz.results292, go_sem]) rfl ⟨⟨_, _, _, _, _, _, _, _, rfl⟩, below2 _ _ _⟩

set_option maxRecDepth 8000 in
set_option maxHeartbeats 400000 in
/-- takeBytes, where there is no count. -/
theorem takeBytes_none (w : World) (sg sh sz lo hi : Int) (tx : Bool) (fn : Int) (pa : Option Addr) (pn pc : Nat) (bv : Value)
    (HC : Hid (∀ w', Below w.heap.size w w' → Calls Tryz.prog 294 #[bv, .int .i64 200] w' fun e w'' => e = .returned (.tuple #[.int .i64 0, .slice none 0 0, .bool false]) ∧ Below w'.heap.size w' w'')) :
    Calls Tryz.prog 293 #[tyv sg sh sz lo hi tx fn (.slice pa pn pc), bv] w fun e w' => noneEnd e ∧ Below w.heap.size w w' := by
  obtain ⟨n0, n1⟩ := new2 w (.cells #[.int .u8 sg, .int .i64 sh, .int .i64 sz, .int .i64 lo, .int .i64 hi, .bool tx, .int .u8 fn, .slice pa pn pc] 227) (.cells #[.int .i64 0, .string ⟨#[]⟩, .slice none 0 0] 113)
  have N1 := hide n1
  clear n0 n1
  go_enter Tryz.func293, Tryz.ntmps293
  go_wp2_with (first
    | (refine wpList_store_row rfl 113 _ _ rfl (w.heap.size + 1) #[.int .i64 0, .string ⟨#[]⟩, .slice none 0 0] rfl rfl 113 _ HH.out Tryz.size113 rfl (one_v _ _ _ _ _) ?_)
    | (go_at_call 294; refine (HC.out _ (below2 _ _ _)).mono ?_; rintro e w1 ⟨rfl, hb1⟩; have HH : Hid (w1.heap[w.heap.size + 1]? = some (.cells #[.int .i64 0, .string ⟨#[]⟩, .slice none 0 0] 113)) := (hb1.block _ (ltOf N1.out)).trans N1.out; have HB1 : Hid (Below w.heap.size w w1) := (below2 _ _ _).trans (hb1.mono (by simp; omega)); clear hb1))
  refine bp_gen (fun X => X.heap[w.heap.size + 1]? = some (.cells #[.int .i64 0, .string ⟨#[]⟩, .slice none 0 0] 113) ∧ Below w.heap.size w X) ⟨setRow_heap _ _ _ _ _ _ HH.out, below_setRow HB1.out (Nat.le_succ _) _⟩ ?_
  rintro X ⟨HQ, hbX⟩
  have c0 := cellOf (j := 0) HQ rfl
  have c1 := cellOf (j := 1) HQ rfl
  have c2 := cellOf (j := 2) HQ rfl
  have HBX := hide hbX
  clear hbX HQ
  exact bodyPost_ret (v := .tuple #[vv 0 ⟨#[]⟩ (.slice none 0 0), .slice none 0 0, .bool false]) (by simp [results, Tryz.results293, go_sem, c0, c1, c2]) rfl ⟨⟨_, _, _, _, _, _, _, _, rfl⟩, HBX.out⟩

set_option maxRecDepth 8000 in
set_option maxHeartbeats 400000 in
/-- .. where there are fewer bytes than are counted. -/
theorem takeBytes_short (w : World) (sg sh sz lo hi : Int) (tx : Bool) (fn : Int) (pa : Option Addr) (pn pc : Nat) (bv : Value) (b off k n cap : Nat) (hk : k < n) (hn : n ≤ 200)
    (HC : Hid (∀ w', Below w.heap.size w w' → Calls Tryz.prog 294 #[bv, .int .i64 200] w' fun e w'' => e = .returned (.tuple #[.int .i64 n, .slice (some ⟨b, off, none⟩) k cap, .bool true]) ∧ Below w'.heap.size w' w'')) :
    Calls Tryz.prog 293 #[tyv sg sh sz lo hi tx fn (.slice pa pn pc), bv] w fun e w' => noneEnd e ∧ Below w.heap.size w w' := by
  have hkz : (k : Int) < (n : Int) := by omega
  obtain ⟨n0, n1⟩ := new2 w (.cells #[.int .u8 sg, .int .i64 sh, .int .i64 sz, .int .i64 lo, .int .i64 hi, .bool tx, .int .u8 fn, .slice pa pn pc] 227) (.cells #[.int .i64 0, .string ⟨#[]⟩, .slice none 0 0] 113)
  have N1 := hide n1
  clear n0 n1
  go_enter Tryz.func293, Tryz.ntmps293
  go_wp2_with (first
    | (refine wpList_store_row rfl 113 _ _ rfl (w.heap.size + 1) #[.int .i64 0, .string ⟨#[]⟩, .slice none 0 0] rfl rfl 113 _ HH.out Tryz.size113 rfl (one_v _ _ _ _ _) ?_)
    | (go_at_call 294; refine (HC.out _ (below2 _ _ _)).mono ?_; rintro e w1 ⟨rfl, hb1⟩; have HH : Hid (w1.heap[w.heap.size + 1]? = some (.cells #[.int .i64 0, .string ⟨#[]⟩, .slice none 0 0] 113)) := (hb1.block _ (ltOf N1.out)).trans N1.out; have HB1 : Hid (Below w.heap.size w w1) := (below2 _ _ _).trans (hb1.mono (by simp; omega)); clear hb1))
  refine bp_gen (fun X => X.heap[w.heap.size + 1]? = some (.cells #[.int .i64 0, .string ⟨#[]⟩, .slice none 0 0] 113) ∧ Below w.heap.size w X) ⟨setRow_heap _ _ _ _ _ _ HH.out, below_setRow HB1.out (Nat.le_succ _) _⟩ ?_
  rintro X ⟨HQ, hbX⟩
  have c0 := cellOf (j := 0) HQ rfl
  have c1 := cellOf (j := 1) HQ rfl
  have c2 := cellOf (j := 2) HQ rfl
  have HBX := hide hbX
  clear hbX HQ
  exact bodyPost_ret (v := .tuple #[vv 0 ⟨#[]⟩ (.slice none 0 0), .slice none 0 0, .bool false]) (by simp [results, Tryz.results293, go_sem, c0, c1, c2]) rfl ⟨⟨_, _, _, _, _, _, _, _, rfl⟩, HBX.out⟩

section
variable {valid : ByteArray → Bool} {Tabs : World → Prop}

theorem tnum_any (U : Utf valid Tabs) (w : World) (hT : Tabs w) (k : Nat) (t : Orch.Ty) (hok : okT (k + 1) t) (hsh : t.l.shape = 0) (pa : Option Addr) (pc : Nat) (bv : Value) (l : List UInt8) (hl : l.length ≤ 1000) (hbv : BsAt w bv l) :
    Calls Tryz.prog 292 #[tval t.l (.slice pa t.ps.length pc), bv] w fun e w' => takeRes w w' bv l e (Orch.take valid (k + 1) t l) ∧ Below w.heap.size w w' := by
  obtain ⟨b, off, cap, rfl, hcap, hlt, hb⟩ := hbv
  have hsz := letters_size hok.1 hsh
  rw [Orch.take]
  simp only [hsh]
  by_cases h4 : l.length < t.l.size
  · rw [if_pos h4]
    exact takeNumber_short w _ _ _ _ _ _ _ pa _ pc l.length cap _ hl (by omega) h4
  · rw [if_neg h4]
    have hS : ∀ (w : World) (b off cap : Nat) (x : List UInt8), x.length = t.l.size → Bytes w b off x → Calls Tryz.prog 252 #[.slice (some ⟨b, off, none⟩) t.l.size cap] w fun e w' => e = .returned (.int .i64 (Orch.sgn x)) ∧ w' = w := by
      rcases hsz with h | h | h <;> rw [h]
      · exact fun w b off cap x => signed_1 w b off cap x
      · exact fun w b off cap x => signed_4 w b off cap x
      · exact fun w b off cap x => signed_8 w b off cap x
    refine (takeNumber_core (Tabs := Tabs) w t.l.sign.toNat t.l.shape t.l.size t.l.least t.l.most t.l.text t.l.fin.toNat pa t.ps.length pc b off l.length cap (Orch.sgn (l.take t.l.size)) (Orch.fits valid t (.mk (Orch.sgn (l.take t.l.size)) ⟨#[]⟩ [])) hl hcap (by omega) hlt h4
      (fun w' h => fits_any U w' h t hok pa pc (.mk (Orch.sgn (l.take t.l.size)) ⟨#[]⟩ []) none 0) (fun w' h => U.kept (U.size hT) h hT)
      (fun w' hbw => hS w' b off cap (l.take t.l.size) (by rw [List.length_take]; omega) (fun i hi => (hbw.cell (p := ⟨b, off + i, none⟩) hlt).trans (hb.take _ i hi)))).mono ?_
    rintro e w' ⟨rv, rfl, hrv, hbb⟩
    refine ⟨?_, hbb⟩
    have he : (ByteArray.empty) = (⟨#[]⟩ : ByteArray) := rfl
    rw [he]
    cases hf : Orch.fits valid t (.mk (Orch.sgn (l.take t.l.size)) ⟨#[]⟩ []) with
    | false =>
      rw [if_neg (by simp), hrv]
      by_cases hc : cap = t.l.size
      · rw [if_pos hc]; exact ⟨_, _, _, _, _, _, _, _, rfl⟩
      · rw [if_neg hc]; exact ⟨_, _, _, _, _, _, _, _, rfl⟩
    | true =>
      rw [if_pos rfl]
      refine ⟨_, rv, rfl, .nil _ _, ?_, OwnV.nil _ _⟩
      rw [hrv]
      exact Tail.cut b off cap l _ (by omega)

theorem bytes_any (U : Utf valid Tabs) (w : World) (hT : Tabs w) (k : Nat) (t : Orch.Ty) (hok : okT (k + 1) t) (hsh : t.l.shape = 1) (pa : Option Addr) (pc : Nat) (bv : Value) (l : List UInt8) (hl : l.length ≤ 1000) (hbv : BsAt w bv l) :
    Calls Tryz.prog 293 #[tval t.l (.slice pa t.ps.length pc), bv] w fun e w' => takeRes w w' bv l e (Orch.take valid (k + 1) t l) ∧ Below w.heap.size w w' := by
  have hcnt : ∀ w', Below w.heap.size w w' → Calls Tryz.prog 294 #[bv, .int .i64 200] w' fun e w'' => countEnd bv l 200 e ∧ Below w'.heap.size w' w'' := fun w' hb => takeCount_any w' bv l hl (hbv.below hb (Nat.le_refl _)) 200 (by omega)
  rw [Orch.take]
  simp only [hsh]
  unfold countEnd at hcnt
  cases hc : Orch.count l 200 with
  | none =>
    rw [hc] at hcnt
    exact takeBytes_none w _ _ _ _ _ _ _ pa _ pc bv hcnt
  | some nr =>
    obtain ⟨n, rest⟩ := nr
    clear hcnt
    obtain ⟨b, off, cap, rfl, hcap, hlt, hb⟩ := hbv
    have hcs := Orch.count_some hc
    have hdr : rest = l.drop 4 := by
      unfold Orch.count at hc
      split at hc
      · cases hc
      · split at hc
        · cases hc
        · simp only [Option.some.injEq, Prod.mk.injEq] at hc; exact hc.2.symm
    have hrl : rest.length = l.length - 4 := by omega
    have hex : ∀ w', Below w.heap.size w w' → Calls Tryz.prog 294 #[.slice (some ⟨b, off, none⟩) l.length cap, .int .i64 200] w' fun e w'' => (∃ b' off' cap', e = .returned (.tuple #[.int .i64 n, .slice (some ⟨b', off', none⟩) (l.length - 4) cap', .bool true]) ∧ ((cap = 4 ∧ b' = b ∧ off' = off ∧ cap' = 0) ∨ (¬ cap = 4 ∧ b' = b ∧ off' = off + 4 ∧ cap' = cap - 4))) ∧ Below w'.heap.size w' w'' := fun w' hbw =>
      takeCount_exact w' b off cap l hl hcap (fun i hi => (hbw.cell (p := ⟨b, off + i, none⟩) hlt).trans (hb i hi)) 200 (by omega) n rest hc
    -- the slice that is left, in either case
    obtain ⟨off1, cap1, hfix, htail, hbr, hcr⟩ : ∃ off1 cap1, (∀ w', Below w.heap.size w w' → Calls Tryz.prog 294 #[.slice (some ⟨b, off, none⟩) l.length cap, .int .i64 200] w' fun e w'' => e = .returned (.tuple #[.int .i64 n, .slice (some ⟨b, off1, none⟩) rest.length cap1, .bool true]) ∧ Below w'.heap.size w' w'') ∧
        Tail (.slice (some ⟨b, off, none⟩) l.length cap) l (.slice (some ⟨b, off1, none⟩) rest.length cap1) rest ∧ Bytes w b off1 rest ∧ rest.length ≤ cap1 := by
      have hcut := Tail.cut b off cap l 4 (by omega)
      by_cases h4 : cap = 4
      · refine ⟨off, 0, fun w' hbw => (hex w' hbw).mono ?_, ?_, ?_, by omega⟩
        · rintro e w'' ⟨⟨b', off', cap', rfl, h | h⟩, hbb⟩
          · obtain ⟨_, rfl, rfl, rfl⟩ := h
            exact ⟨by rw [hrl], hbb⟩
          · exact absurd h4 h.1
        · rw [if_pos h4, ← hdr] at hcut; rw [hrl]; exact hcut
        · intro i hi; omega
      · refine ⟨off + 4, cap - 4, fun w' hbw => (hex w' hbw).mono ?_, ?_, ?_, by omega⟩
        · rintro e w'' ⟨⟨b', off', cap', rfl, h | h⟩, hbb⟩
          · exact absurd h.1 h4
          · obtain ⟨_, rfl, rfl, rfl⟩ := h
            exact ⟨by rw [hrl], hbb⟩
        · rw [if_neg h4, ← hdr] at hcut; rw [hrl]; exact hcut
        · rw [hdr]; exact hb.drop 4
    clear hex
    simp only
    by_cases hn : rest.length < n
    · rw [if_pos hn]
      exact takeBytes_short w _ _ _ _ _ _ _ pa _ pc _ b off1 rest.length n cap1 hn hcs.1 hfix
    · rw [if_neg hn]
      have htk : (rest.take n).length = n := by rw [List.length_take]; omega
      have hstr : strOfNums ((rest.take n).map fun c => (c.toNat : Int)) = (⟨(rest.take n).toArray⟩ : ByteArray) := by
        unfold strOfNums
        congr 2
        rw [List.map_map]
        conv => rhs; rw [← List.map_id (rest.take n)]
        apply List.map_congr_left
        intro c _
        simp
      refine (takeBytes_core (Tabs := Tabs) w t.l.sign.toNat t.l.shape t.l.size t.l.least t.l.most t.l.text t.l.fin.toNat pa t.ps.length pc _ b off1 rest.length n cap1 ⟨(rest.take n).toArray⟩ (Orch.fits valid t (Orch.bytesV (rest.take n))) (by omega) hcr hlt (by omega) hfix
        (fun w' h => fits_any U w' h t hok pa pc (Orch.bytesV (rest.take n)) none 0) (fun w' h => U.kept (U.size hT) h hT)
        (fun w' hbw => by
          have := run_convert_bytes_arg (P := Tryz.prog) w' 57 5 Tryz.underlying57 Tryz.underlying5 b off1 n cap1 ((rest.take n).map fun c => (c.toNat : Int)) (by rw [List.length_map, htk]) (fun i hi => by
            have h1 := (hbw.cell (p := ⟨b, off1 + i, none⟩) hlt).trans (hbr.take n i (by rw [htk]; exact hi))
            rw [h1, List.getD_eq_getElem?_getD, List.getElem?_map, List.getElem?_eq_getElem (by rw [htk]; exact hi)]
            rfl) 9 Tryz.underlying9
          rw [hstr] at this
          exact this)).mono ?_
      rintro e w' ⟨rv, rfl, hrv, hbb⟩
      refine ⟨?_, hbb⟩
      cases hf : Orch.fits valid t (Orch.bytesV (rest.take n)) with
      | false =>
        rw [if_neg (by simp), hrv]
        by_cases hc1 : cap1 = n
        · rw [if_pos hc1]; exact ⟨_, _, _, _, _, _, _, _, rfl⟩
        · rw [if_neg hc1]; exact ⟨_, _, _, _, _, _, _, _, rfl⟩
      | true =>
        rw [if_pos rfl]
        refine ⟨_, rv, rfl, .nil _ _, htail.trans ?_, OwnV.nil _ _⟩
        rw [hrv]
        exact Tail.cut b off1 cap1 rest n (by omega)
end
end Go.Proofs.YtlghcldiboecoaaGreatDoor

/- take, whole; Decode. -/
set_option linter.unusedVariables false
namespace Go.Proofs.YtlghcldiboecoaaGreatDoor
open Go.RowKit
section
variable {valid : ByteArray → Bool} {Tabs : World → Prop}

/-- An answer of takeElements as one of take. -/
theorem te_take {W wb : World} {bv : Value} {l : List UInt8} {e : Ending} {o : Option (List Orch.V × List UInt8)} (h : teRes W wb bv l e o) : takeRes W wb bv l e (o.map Orch.listV) := by
  cases o with
  | none => exact h
  | some es => obtain ⟨es, rest⟩ := es; exact h

theorem res_shape {W wb : World} {bv : Value} {l : List UInt8} {e : Ending} {o : Option (Orch.V × List UInt8)} (h : takeRes W wb bv l e o) :
    ∃ (n : Int) (s : ByteArray) (a : Option Addr) (m c : Nat) (rv : Value) (ok : Bool), e = .returned (.tuple #[vv n s (.slice a m c), rv, .bool ok]) := by
  cases o with
  | none => obtain ⟨n, s, a, a', m, c, m', c', rfl⟩ := h; exact ⟨_, _, _, _, _, _, _, rfl⟩
  | some p =>
    obtain ⟨v, rest⟩ := p
    obtain ⟨lv, rv, rfl, hv, _⟩ := h
    obtain ⟨a, c, rfl⟩ := hv.shape
    exact ⟨_, _, _, _, _, _, _, rfl⟩

theorem res_handed {f : FuncId} {args : Array Value} {W : World} {bv : Value} {l : List UInt8} {o : Option (Orch.V × List UInt8)}
    (h : Calls Tryz.prog f args W fun e w' => takeRes W w' bv l e o ∧ Below W.heap.size W w') : Calls Tryz.prog f args W (handed (fun W v wb => takeRes W wb bv l (.returned v) o) W) := by
  refine h.mono ?_
  rintro e w' ⟨hr, hb⟩
  obtain ⟨n, s, a, m, c, rv, ok, rfl⟩ := res_shape hr
  exact ⟨⟨n, s, a, m, c, rv, ok, rfl, hr⟩, hb⟩

theorem res_on {w w' : World} {bv : Value} {l : List UInt8} {e : Ending} {o : Option (Orch.V × List UInt8)} (h : onEnd (fun W v wb => takeRes W wb bv l (.returned v) o) w e w') : takeRes w w' bv l e o ∧ Below w.heap.size w w' := by
  obtain ⟨⟨W, wb, v, rfl, hr, hs, hsz, hk⟩, hb⟩ := h
  refine ⟨?_, hb⟩
  cases o with
  | none => exact hr
  | some p =>
    obtain ⟨x, rest⟩ := p
    obtain ⟨lv, rv, he, hv, ht⟩ := hr
    exact ⟨lv, rv, he, hv.congr (fun b hb' => ⟨by omega, by rw [hsz]; exact hb'.2⟩) (fun b hb' => hk b (by omega)), ht.1, ht.2.keep (by omega) (by omega) (fun b hb' _ => hk b (by omega))⟩

theorem tk_succ (U : Utf valid Tabs) (k : Nat) (hte : TeSaid valid Tabs k) : TkSaid valid Tabs (k + 1) := by
  intro w hT t hok S psv hts hS bv l hl hbv
  obtain ⟨pa, pc, rfl⟩ := hts.shape
  have hTW : ∀ W, Below w.heap.size w W → Tabs W := fun W h => U.kept (U.size hT) h hT
  have hBW : ∀ W, Below w.heap.size w W → BsAt W bv l := fun W h => hbv.below h (Nat.le_refl _)
  have hTS : ∀ W, Below w.heap.size w W → TsAt W S t.ps (.slice pa t.ps.length pc) := fun W h => hts.congr (fun _ h' => h') (fun b hb => h.block b (hS b hb))
  have hSW : ∀ W, Below w.heap.size w W → ∀ b, S b → b < W.heap.size := fun W h b hb => Nat.lt_of_lt_of_le (hS b hb) h.size
  rcases letters_shape hok.1 with h | h | h | h
  · have hc := fun W (hb : Below w.heap.size w W) => res_handed (tnum_any U W (hTW W hb) k t hok h pa pc bv l hl (hBW W hb))
    simp only [tval, h] at hc ⊢
    exact (take_0 w _ _ _ _ _ _ pa _ pc bv _ hc).mono fun e w' he => res_on he
  · have hc := fun W (hb : Below w.heap.size w W) => res_handed (bytes_any U W (hTW W hb) k t hok h pa pc bv l hl (hBW W hb))
    simp only [tval, h] at hc ⊢
    exact (take_1 w _ _ _ _ _ _ pa _ pc bv _ hc).mono fun e w' he => res_on he
  · have hcnt := fun W (hb : Below w.heap.size w W) => takeCount_any W bv l hl (hBW W hb) 32 (by omega)
    rw [Orch.take]
    simp only [h]
    unfold countEnd at hcnt
    cases hc : Orch.count l 32 with
    | none =>
      rw [hc] at hcnt
      simp only [tval, h]
      exact take_2none w _ _ _ _ _ _ pa _ pc bv hcnt
    | some nr =>
      obtain ⟨n, rest⟩ := nr
      rw [hc] at hcnt
      have hcs := Orch.count_some hc
      have h30 : ∀ W v, Tail bv l v rest → Below w.heap.size w W → Calls Tryz.prog 295 #[tval t.l (.slice pa t.ps.length pc), .int .i64 n, v] W fun e w' => takeRes W w' bv l e ((Orch.takeE (Orch.take valid k) t n 0 rest).map Orch.listV) ∧ Below W.heap.size W w' := fun W v htl hb => by
        refine (hte W (hTW W hb) t hok S _ (hTS W hb) (hSW W hb) n (by omega) (Or.inl h) v rest (by omega) (htl W (hBW W hb))).mono ?_
        rintro e w' ⟨hr, hb'⟩
        refine ⟨?_, hb'⟩
        have := te_take hr
        cases ho : (Orch.takeE (Orch.take valid k) t n 0 rest).map Orch.listV with
        | none => rw [ho] at this; exact this
        | some p =>
          rw [ho] at this
          obtain ⟨x, r⟩ := p
          obtain ⟨lv, rv, he, hv, ht, ho'⟩ := this
          exact ⟨lv, rv, he, hv, htl.trans ht, ho'⟩
      have h30' := fun W v (hq : Tail bv l v rest) (hb : Below w.heap.size w W) => res_handed (h30 W v hq hb)
      simp only [tval, h] at h30' ⊢
      exact (take_2 w _ _ _ _ _ _ pa _ pc bv _ n (fun v => Tail bv l v rest) hcnt h30').mono fun e w' he => res_on he
  · rw [Orch.take]
    simp only [h]
    have h30 : ∀ W, Below w.heap.size w W → Calls Tryz.prog 295 #[tval t.l (.slice pa t.ps.length pc), .int .i64 t.ps.length, bv] W fun e w' => takeRes W w' bv l e ((Orch.takeE (Orch.take valid k) t t.ps.length 0 l).map Orch.listV) ∧ Below W.heap.size W w' := fun W hb => by
      refine (hte W (hTW W hb) t hok S _ (hTS W hb) (hSW W hb) t.ps.length hok.2.2.1 (Or.inr ⟨h, rfl⟩) bv l hl (hBW W hb)).mono ?_
      rintro e w' ⟨hr, hb'⟩
      exact ⟨te_take hr, hb'⟩
    have h30' := fun W (hb : Below w.heap.size w W) => res_handed (h30 W hb)
    simp only [tval, h] at h30' ⊢
    exact (take_3 w _ _ _ _ _ _ pa _ pc bv _ h30').mono fun e w' he => res_on he

theorem tk_all (U : Utf valid Tabs) : ∀ k, TkSaid valid Tabs k := by
  intro k
  induction k with
  | zero => intro w _ t hok; exact absurd hok (by simp [okT])
  | succ k ih => exact tk_succ U k (te_of_tk U k ih)
end
end Go.Proofs.YtlghcldiboecoaaGreatDoor

/- The value that bytes begin with: Take of the package value. -/
set_option linter.unusedVariables false
namespace Go.Proofs.YtlghcldiboecoaaGreatDoor
open Go.RowKit

/-- The value that bytes begin with, and what is left of them. -/
def vtake (valid : ByteArray → Bool) (t : Orch.Ty) (l : List UInt8) : Option (Orch.V × List UInt8) :=
  match Orch.take valid 9 t (l.take 1000) with
  | none => none
  | some (v, rest) => some (v, l.drop ((l.take 1000).length - rest.length))

/-- What value.Take leaves. -/
def vtRes (w w' : World) (bv : Value) (l : List UInt8) (e : Ending) : Option (Orch.V × List UInt8) → Prop
  | none => e = .returned (.tuple #[vv 0 ⟨#[]⟩ (.slice none 0 0), .slice none 0 0, .bool false])
  | some (v, rest) => ∃ lv rv, e = .returned (.tuple #[vval v lv, rv, .bool true]) ∧ VsAt w' (fun b => w.heap.size ≤ b ∧ b < w'.heap.size) v.l lv ∧ Tail bv l rv rest ∧ OwnV w.heap.size w' v.l lv

theorem set3_heap (X : World) (g : Nat) (a b c : Value) (k : Nat) (hk : k ≠ g) : (((X.setCell ⟨g, 0, none⟩ a).setCell ⟨g, 1, none⟩ b).setCell ⟨g, 2, none⟩ c).heap[k]? = X.heap[k]? :=
  (heap_setCell_other _ ⟨g, 2, none⟩ k _ hk).trans ((heap_setCell_other _ ⟨g, 1, none⟩ k _ hk).trans (heap_setCell_other _ ⟨g, 0, none⟩ k _ hk))

theorem set3_size (X : World) (g : Nat) (a b c : Value) : (((X.setCell ⟨g, 0, none⟩ a).setCell ⟨g, 1, none⟩ b).setCell ⟨g, 2, none⟩ c).heap.size = X.heap.size := by simp [World.setCell]

set_option maxRecDepth 8000 in
set_option maxHeartbeats 1000000 in
theorem vt_none (w : World) (sg sh sz : Nat) (lo hi : Int) (tx : Bool) (fn : Nat) (pa : Option Addr) (pn pc : Nat) (b off k m cap : Nat) (hm : (1000 : Int) < k ∧ m = 1000 ∨ ¬ (1000 : Int) < k ∧ m = k) (hcap : k ≤ cap) (hk2 : k ≤ 9223372036854775807)
    (HC : Hid (∀ W, Below w.heap.size w W → Calls Tryz.prog 245 #[tyv sg sh sz lo hi tx fn (.slice pa pn pc), .slice (some ⟨b, off, none⟩) m cap] W fun e w' => noneEnd e ∧ Below W.heap.size W w')) :
    Calls Tryz.prog 179 #[tyv sg sh sz lo hi tx fn (.slice pa pn pc), .slice (some ⟨b, off, none⟩) k cap] w fun e w' => e = .returned (.tuple #[vv 0 ⟨#[]⟩ (.slice none 0 0), .slice none 0 0, .bool false]) ∧ Below w.heap.size w w' := by
  have hmc : (m : Int) ≤ (cap : Int) := by omega
  obtain ⟨n0, n1⟩ := new2 w (.cells #[.int .u8 sg, .int .i64 sh, .int .i64 sz, .int .i64 lo, .int .i64 hi, .bool tx, .int .u8 fn, .slice pa pn pc] 227) (.cells #[.int .i64 0, .string ⟨#[]⟩, .slice none 0 0] 113)
  have N1 := hide n1
  clear n0 n1
  rcases hm with ⟨hz, rfl⟩ | ⟨hz, rfl⟩
  all_goals
    go_enter Tryz.func179, Tryz.ntmps179
    go_wp2_with (first
      | (refine wpList_store_row rfl 113 _ _ rfl (w.heap.size + 1) #[.int .i64 0, .string ⟨#[]⟩, .slice none 0 0] rfl rfl 113 _ HH2.out Tryz.size113 rfl (one_v _ _ _ _ _) ?_)
      | (go_at_call 245; refine (HC.out _ (below2 _ _ _)).mono ?_; rintro e w1 ⟨⟨n, s, va, va', vm, c, m', c', rfl⟩, hb1⟩; have HB1 : Hid (Below w.heap.size w w1) := (below2 _ _ _).trans (hb1.mono (by simp; omega)); have HH : Hid (w1.heap[w.heap.size + 1]? = some (.cells #[.int .i64 0, .string ⟨#[]⟩, .slice none 0 0] 113)) := (hb1.block _ (ltOf N1.out)).trans N1.out; have HH2 : Hid ((w1.alloc (.cells #[.int .i64 n, .string s, .slice va vm c] 113)).heap[w.heap.size + 1]? = some (.cells #[.int .i64 0, .string ⟨#[]⟩, .slice none 0 0] 113)) := (Below.heap_alloc _ _ _ (ltOf HH.out)).trans HH.out; clear hb1))
    refine bp_gen (fun X => X.heap[w.heap.size + 1]? = some (.cells #[.int .i64 0, .string ⟨#[]⟩, .slice none 0 0] 113) ∧ Below w.heap.size w X) ⟨setRow_heap _ _ _ _ _ _ HH2.out, below_setRow (HB1.out.alloc HB1.out.size _) (Nat.le_succ _) _⟩ ?_
    rintro X ⟨HQ, hbX⟩
    have c0 := cellOf (j := 0) HQ rfl
    have c1 := cellOf (j := 1) HQ rfl
    have c2 := cellOf (j := 2) HQ rfl
    exact bodyPost_ret (v := .tuple #[vv 0 ⟨#[]⟩ (.slice none 0 0), .slice none 0 0, .bool false]) (by simp [results, Tryz.results179, go_sem, c0, c1, c2]) rfl ⟨rfl, hbX⟩

set_option maxRecDepth 8000 in
set_option maxHeartbeats 2000000 in
theorem vt_ok (w : World) (sg sh sz : Nat) (lo hi : Int) (tx : Bool) (fn : Nat) (pa : Option Addr) (pn pc : Nat) (b off k m cap r : Nat) (hm : (1000 : Int) < k ∧ m = 1000 ∨ ¬ (1000 : Int) < k ∧ m = k) (hcap : k ≤ cap) (hk2 : k ≤ 9223372036854775807) (hr : r ≤ m) (n : Int) (s : ByteArray) (pv : World → Option Addr → Nat → Nat → World → Prop)
    (HC : Hid (∀ W, Below w.heap.size w W → Calls Tryz.prog 245 #[tyv sg sh sz lo hi tx fn (.slice pa pn pc), .slice (some ⟨b, off, none⟩) m cap] W fun e w' => (∃ va vm vc a' c', e = .returned (.tuple #[vv n s (.slice va vm vc), .slice a' r c', .bool true]) ∧ pv W va vm vc w') ∧ Below W.heap.size W w')) :
    Calls Tryz.prog 179 #[tyv sg sh sz lo hi tx fn (.slice pa pn pc), .slice (some ⟨b, off, none⟩) k cap] w fun e w' => (∃ va vm vc W wb, e = .returned (.tuple #[vv n s (.slice va vm vc), if cap = m - r then .slice (some ⟨b, off, none⟩) (k - (m - r)) 0 else .slice (some ⟨b, off + (m - r), none⟩) (k - (m - r)) (cap - (m - r)), .bool true]) ∧ pv W va vm vc wb ∧ w.heap.size + 2 ≤ W.heap.size ∧ w'.heap.size = wb.heap.size + 1 ∧ ∀ b, b < wb.heap.size → b ≠ w.heap.size + 1 → w'.heap[b]? = wb.heap[b]?) ∧ Below w.heap.size w w' := by
  have hmc : (m : Int) ≤ (cap : Int) := by omega
  have hmk : m ≤ k := by omega
  obtain ⟨d, hd⟩ : ∃ d, d = m - r := ⟨_, rfl⟩
  have hdz : (m : Int) - (r : Int) = (d : Int) := by omega
  have hdk : (d : Int) ≤ (k : Int) := by omega
  have hdk' : d ≤ k := by omega
  rw [← hd]
  obtain ⟨n0, n1⟩ := new2 w (.cells #[.int .u8 sg, .int .i64 sh, .int .i64 sz, .int .i64 lo, .int .i64 hi, .bool tx, .int .u8 fn, .slice pa pn pc] 227) (.cells #[.int .i64 0, .string ⟨#[]⟩, .slice none 0 0] 113)
  have N1 := hide n1
  clear n0 n1
  have HSZ : Hid (w.heap.size + 2 ≤ ((w.alloc (.cells #[.int .u8 sg, .int .i64 sh, .int .i64 sz, .int .i64 lo, .int .i64 hi, .bool tx, .int .u8 fn, .slice pa pn pc] 227)).alloc (.cells #[.int .i64 0, .string ⟨#[]⟩, .slice none 0 0] 113)).heap.size) := by show _ ≤ _; simp
  have HD := hide hd
  clear hd
  obtain ⟨RV, hRV⟩ : ∃ RV, RV = if cap = d then Value.slice (some ⟨b, off, none⟩) (k - d) 0 else .slice (some ⟨b, off + d, none⟩) (k - d) (cap - d) := ⟨_, rfl⟩
  rw [← hRV]
  have HRV := hide hRV
  clear hRV
  rcases hm with ⟨hz, rfl⟩ | ⟨hz, rfl⟩
  all_goals
    first
      | replace hdz : (1000 : Int) - (r : Int) = (d : Int) := by omega
      | skip
    go_enter Tryz.func179, Tryz.ntmps179
    go_wp2_with (go_at_call 245; refine (HC.out _ (below2 _ _ _)).mono ?_; rintro e w1 ⟨⟨va, vm, vc, a', c', rfl, hpv⟩, hb1⟩; have HB1 : Hid (Below w.heap.size w w1) := (below2 _ _ _).trans (hb1.mono (by simp; omega)); have HH : Hid (w1.heap[w.heap.size + 1]? = some (.cells #[.int .i64 0, .string ⟨#[]⟩, .slice none 0 0] 113)) := (hb1.block _ (ltOf N1.out)).trans N1.out; have HPV := hide hpv; clear hpv; clear hb1)
    have q1 : (w1.alloc (.cells #[.int .i64 n, .string s, .slice va vm vc] 113)).heap[w.heap.size + 1]? = _ := (Below.heap_alloc _ _ _ (ltOf HH.out)).trans HH.out
    refine wp_gen (fun W => Below w.heap.size w W ∧ W.heap[w.heap.size + 1]? = some (.cells #[.int .i64 0, .string ⟨#[]⟩, .slice none 0 0] 113) ∧ W.heap[w1.heap.size]? = some (.cells #[.int .i64 n, .string s, .slice va vm vc] 113) ∧ W.heap.size = w1.heap.size + 1 ∧ ∀ b, b < w1.heap.size → W.heap[b]? = w1.heap[b]?) ⟨HB1.out.alloc HB1.out.size _, q1, heap_alloc_new _ _, by simp, fun b hb => Below.heap_alloc _ _ _ hb⟩ ?_
    rintro W ⟨hbW, m1, m2, hsW, hkW⟩
    have hne := ltOf HH.out
    have HS1 := hide (ltOf HH.out)
    have HBW := hide hbW
    have HSW := hide hsW
    have HKW := hide hkW
    generalize hG : w1.heap.size = G at *
    have HG := hide hG
    have d0 := cellOf (j := 0) m1 rfl
    have d1 := cellOf (j := 1) m1 rfl
    have d2 := cellOf (j := 2) m1 rfl
    have f0 := frozenOf (j := 0) m1
    have f1 := frozenOf (j := 1) m1
    have f2 := frozenOf (j := 2) m1
    have g0 := cellOf (j := 0) m2 rfl
    have g1 := cellOf (j := 1) m2 rfl
    have g2 := cellOf (j := 2) m2 rfl
    clear hbW hsW hkW m1 m2 q1 N1 HC hG
    by_cases hcs : cap = d
    all_goals first
      | (exfalso; omega)
      | go_region
  all_goals go_wp2
  all_goals refine bodyPost_ret (v := .tuple #[vv n s (.slice va vm vc), RV, .bool true]) ?_ rfl ⟨⟨va, vm, vc, _, w1, rfl, HPV.out, HSZ.out, ?_, ?_⟩, ?_⟩
  all_goals try exact (below_set3 HBW.out _ (Nat.le_succ _) _ _ _).drew
  all_goals try (rw [HRV.out, if_pos hcs]; simp [results, Tryz.results179, go_sem, d0, d1, d2]; done)
  all_goals try (rw [HRV.out, if_neg hcs]; simp [results, Tryz.results179, go_sem, d0, d1, d2]; done)
  all_goals try (rw [HG.out]; exact (set3_size _ _ _ _ _).trans HSW.out)
  all_goals try (rw [HG.out]; exact fun k hk hne => (set3_heap _ _ _ _ _ k hne).trans (HKW.out k hk))

section
variable {valid : ByteArray → Bool} {Tabs : World → Prop}

theorem vt_any (U : Utf valid Tabs) (w : World) (hT : Tabs w) (t : Orch.Ty) (hok : okT 9 t) (S : Nat → Prop) (psv : Value) (hts : TsAt w S t.ps psv) (hS : ∀ b, S b → b < w.heap.size) (bv : Value) (l : List UInt8) (hl : l.length ≤ 9223372036854775807) (hbv : BsAt w bv l) :
    Calls Tryz.prog 179 #[tval t.l psv, bv] w fun e w' => vtRes w w' bv l e (vtake valid t l) ∧ Below w.heap.size w w' := by
  obtain ⟨pa, pc, rfl⟩ := hts.shape
  have hbv0 := hbv
  obtain ⟨b, off, cap, rfl, hcap, hlt, hb⟩ := hbv
  have hm : (1000 : Int) < (l.length : Nat) ∧ (l.take 1000).length = 1000 ∨ ¬ (1000 : Int) < (l.length : Nat) ∧ (l.take 1000).length = l.length := by rw [List.length_take]; omega
  have hl1 : (l.take 1000).length ≤ 1000 := by rw [List.length_take]; omega
  have hl2 : (l.take 1000).length ≤ l.length := by rw [List.length_take]; omega
  have hbf : BsAt w (.slice (some ⟨b, off, none⟩) (l.take 1000).length cap) (l.take 1000) := ⟨b, off, cap, rfl, by omega, hlt, hb.take 1000⟩
  have hc : ∀ W, Below w.heap.size w W → Calls Tryz.prog 245 #[tval t.l (.slice pa t.ps.length pc), .slice (some ⟨b, off, none⟩) (l.take 1000).length cap] W fun e w' => takeRes W w' (.slice (some ⟨b, off, none⟩) (l.take 1000).length cap) (l.take 1000) e (Orch.take valid 9 t (l.take 1000)) ∧ Below W.heap.size W w' := fun W hbW =>
    tk_all U 9 W (U.kept (U.size hT) hbW hT) t hok S _ (hts.congr (fun _ h' => h') (fun b hb => hbW.block b (hS b hb))) (fun b hb => Nat.lt_of_lt_of_le (hS b hb) hbW.size) _ _ hl1 (hbf.below hbW (Nat.le_refl _))
  unfold vtake
  cases hq : Orch.take valid 9 t (l.take 1000) with
  | none =>
    rw [hq] at hc
    exact vt_none w _ _ _ _ _ _ _ pa _ pc b off _ _ cap hm hcap hl hc
  | some vr =>
    obtain ⟨v, rest⟩ := vr
    have hrl := take_len valid hq
    rw [hq] at hc
    refine (vt_ok w _ _ _ _ _ _ _ pa _ pc b off _ _ cap rest.length hm hcap hl (by omega) v.n v.s (fun W va m c w' => VsAt w' (fun b => W.heap.size ≤ b ∧ b < w'.heap.size) v.l (.slice va m c) ∧ OwnV W.heap.size w' v.l (.slice va m c)) (fun W hbW => (hc W hbW).mono ?_)).mono ?_
    · rintro e w' ⟨⟨lv, rv, rfl, hv, ht, ho⟩, hb'⟩
      obtain ⟨va, vc, rfl⟩ := hv.shape
      obtain ⟨b', off', cap', rfl, _⟩ := ht w hbf
      exact ⟨⟨va, _, vc, _, cap', rfl, hv, ho⟩, hb'⟩
    · rintro e w' ⟨⟨va, m, c, W, wb, rfl, ⟨hv, ho⟩, hs, hsz, hk⟩, hb'⟩
      exact ⟨⟨_, _, rfl, hv.congr (fun b hb => ⟨by omega, by omega⟩) (fun b hb => hk b hb.2 (by omega)), Tail.cut b off cap l _ (by omega), ho.keep (by omega) (by omega) (fun b hb hlt => hk b hlt (by omega))⟩, hb'⟩
end
end Go.Proofs.YtlghcldiboecoaaGreatDoor

/- Decode of the packages value and orchard. -/
set_option linter.unusedVariables false
namespace Go.Proofs.YtlghcldiboecoaaGreatDoor
open Go.RowKit

/-- What value.Decode leaves. -/
def vdRes (w w' : World) (e : Ending) : Option Orch.V → Prop
  | none => e = .returned (.tuple #[vv 0 ⟨#[]⟩ (.slice none 0 0), .bool false])
  | some v => ∃ lv, e = .returned (.tuple #[vval v lv, .bool true]) ∧ OwnV w.heap.size w' v.l lv

def vdec (valid : ByteArray → Bool) (t : Orch.Ty) (l : List UInt8) : Option Orch.V :=
  if 1000 < l.length then none else match Orch.take valid 9 t l with
    | some (v, []) => some v
    | _ => none

theorem take_short (valid : ByteArray → Bool) {t : Orch.Ty} {l : List UInt8} : vdec valid t l = match vtake valid t l with
    | some (v, []) => some v
    | _ => none := by
  unfold vdec vtake
  by_cases hl : 1000 < l.length
  · rw [if_pos hl]
    cases hq : Orch.take valid 9 t (l.take 1000) with
    | none => rfl
    | some vr =>
      obtain ⟨v, rest⟩ := vr
      have : (l.drop ((l.take 1000).length - rest.length)).length ≠ 0 := by rw [List.length_drop, List.length_take]; omega
      simp only
      cases hd : l.drop ((l.take 1000).length - rest.length) with
      | nil => rw [hd] at this; simp at this
      | cons y ys => rfl
  · rw [if_neg hl, List.take_of_length_le (by omega)]
    cases hq : Orch.take valid 9 t l with
    | none => rfl
    | some vr =>
      obtain ⟨v, rest⟩ := vr
      have hrl := take_len valid hq
      cases rest with
      | nil => simp
      | cons y ys =>
        have : (l.drop (l.length - (y :: ys).length)).length ≠ 0 := by rw [List.length_drop]; simp only [List.length_cons] at hrl ⊢; omega
        simp only
        cases hd : l.drop (l.length - (y :: ys).length) with
        | nil => rw [hd] at this; simp at this
        | cons y' ys' => rfl

set_option maxRecDepth 8000 in
set_option maxHeartbeats 1000000 in
theorem vd_none (w : World) (sg sh sz : Nat) (lo hi : Int) (tx : Bool) (fn : Nat) (pa : Option Addr) (pn pc : Nat) (bv : Value)
    (HC : Hid (∀ W, Below w.heap.size w W → Calls Tryz.prog 179 #[tyv sg sh sz lo hi tx fn (.slice pa pn pc), bv] W fun e w' => e = .returned (.tuple #[vv 0 ⟨#[]⟩ (.slice none 0 0), .slice none 0 0, .bool false]) ∧ Below W.heap.size W w')) :
    Calls Tryz.prog 134 #[tyv sg sh sz lo hi tx fn (.slice pa pn pc), bv] w fun e w' => vdRes w w' e none ∧ Below w.heap.size w w' := by
  obtain ⟨n0, n1⟩ := new2 w (.cells #[.int .u8 sg, .int .i64 sh, .int .i64 sz, .int .i64 lo, .int .i64 hi, .bool tx, .int .u8 fn, .slice pa pn pc] 227) (.cells #[.int .i64 0, .string ⟨#[]⟩, .slice none 0 0] 113)
  have N1 := hide n1
  clear n0 n1
  go_enter Tryz.func134, Tryz.ntmps134
  go_wp2_with (first
    | (refine wpList_store_row rfl 113 _ _ rfl (w.heap.size + 1) #[.int .i64 0, .string ⟨#[]⟩, .slice none 0 0] rfl rfl 113 _ HH2.out Tryz.size113 rfl (one_v _ _ _ _ _) ?_)
    | (go_at_call 179; refine (HC.out _ (below2 _ _ _)).mono ?_; rintro e w1 ⟨rfl, hb1⟩; have HB1 : Hid (Below w.heap.size w w1) := (below2 _ _ _).trans (hb1.mono (by simp; omega)); have HH : Hid (w1.heap[w.heap.size + 1]? = some (.cells #[.int .i64 0, .string ⟨#[]⟩, .slice none 0 0] 113)) := (hb1.block _ (ltOf N1.out)).trans N1.out; have HH2 : Hid ((w1.alloc (.cells #[.int .i64 0, .string ⟨#[]⟩, .slice none 0 0] 113)).heap[w.heap.size + 1]? = some (.cells #[.int .i64 0, .string ⟨#[]⟩, .slice none 0 0] 113)) := (Below.heap_alloc _ _ _ (ltOf HH.out)).trans HH.out; clear hb1))
  refine bp_gen (fun X => X.heap[w.heap.size + 1]? = some (.cells #[.int .i64 0, .string ⟨#[]⟩, .slice none 0 0] 113) ∧ Below w.heap.size w X) ⟨setRow_heap _ _ _ _ _ _ HH2.out, below_setRow (HB1.out.alloc HB1.out.size _) (Nat.le_succ _) _⟩ ?_
  rintro X ⟨HQ, hbX⟩
  have c0 := cellOf (j := 0) HQ rfl
  have c1 := cellOf (j := 1) HQ rfl
  have c2 := cellOf (j := 2) HQ rfl
  exact bodyPost_ret (v := .tuple #[vv 0 ⟨#[]⟩ (.slice none 0 0), .bool false]) (by simp [results, Tryz.results134, go_sem, c0, c1, c2]) rfl ⟨rfl, hbX⟩

set_option maxRecDepth 8000 in
set_option maxHeartbeats 1000000 in
theorem vd_rest (w : World) (sg sh sz : Nat) (lo hi : Int) (tx : Bool) (fn : Nat) (pa : Option Addr) (pn pc : Nat) (bv : Value)
    (HC : Hid (∀ W, Below w.heap.size w W → Calls Tryz.prog 179 #[tyv sg sh sz lo hi tx fn (.slice pa pn pc), bv] W fun e w' => (∃ n s va m c a' m' c', e = .returned (.tuple #[vv n s (.slice va m c), .slice a' m' c', .bool true]) ∧ 0 < m') ∧ Below W.heap.size W w')) :
    Calls Tryz.prog 134 #[tyv sg sh sz lo hi tx fn (.slice pa pn pc), bv] w fun e w' => vdRes w w' e none ∧ Below w.heap.size w w' := by
  obtain ⟨n0, n1⟩ := new2 w (.cells #[.int .u8 sg, .int .i64 sh, .int .i64 sz, .int .i64 lo, .int .i64 hi, .bool tx, .int .u8 fn, .slice pa pn pc] 227) (.cells #[.int .i64 0, .string ⟨#[]⟩, .slice none 0 0] 113)
  have N1 := hide n1
  clear n0 n1
  go_enter Tryz.func134, Tryz.ntmps134
  go_wp2_with (first
    | (refine wpList_store_row rfl 113 _ _ rfl (w.heap.size + 1) #[.int .i64 0, .string ⟨#[]⟩, .slice none 0 0] rfl rfl 113 _ HH2.out Tryz.size113 rfl (one_v _ _ _ _ _) ?_)
    | (go_at_call 179; refine (HC.out _ (below2 _ _ _)).mono ?_; rintro e w1 ⟨⟨n, s, va, m, c, a', m', c', rfl, hm⟩, hb1⟩; have HB1 : Hid (Below w.heap.size w w1) := (below2 _ _ _).trans (hb1.mono (by simp; omega)); have HH : Hid (w1.heap[w.heap.size + 1]? = some (.cells #[.int .i64 0, .string ⟨#[]⟩, .slice none 0 0] 113)) := (hb1.block _ (ltOf N1.out)).trans N1.out; have HH2 : Hid ((w1.alloc (.cells #[.int .i64 n, .string s, .slice va m c] 113)).heap[w.heap.size + 1]? = some (.cells #[.int .i64 0, .string ⟨#[]⟩, .slice none 0 0] 113)) := (Below.heap_alloc _ _ _ (ltOf HH.out)).trans HH.out; have hmz : (0 : Int) < (m' : Int) := (by omega); clear hb1))
  refine bp_gen (fun X => X.heap[w.heap.size + 1]? = some (.cells #[.int .i64 0, .string ⟨#[]⟩, .slice none 0 0] 113) ∧ Below w.heap.size w X) ⟨setRow_heap _ _ _ _ _ _ HH2.out, below_setRow (HB1.out.alloc HB1.out.size _) (Nat.le_succ _) _⟩ ?_
  rintro X ⟨HQ, hbX⟩
  have c0 := cellOf (j := 0) HQ rfl
  have c1 := cellOf (j := 1) HQ rfl
  have c2 := cellOf (j := 2) HQ rfl
  exact bodyPost_ret (v := .tuple #[vv 0 ⟨#[]⟩ (.slice none 0 0), .bool false]) (by simp [results, Tryz.results134, go_sem, c0, c1, c2]) rfl ⟨rfl, hbX⟩

set_option maxRecDepth 8000 in
set_option maxHeartbeats 1000000 in
theorem vd_ok (w : World) (sg sh sz : Nat) (lo hi : Int) (tx : Bool) (fn : Nat) (pa : Option Addr) (pn pc : Nat) (bv : Value) (n : Int) (s : ByteArray) (pv : World → Option Addr → Nat → Nat → World → Prop)
    (HC : Hid (∀ W, Below w.heap.size w W → Calls Tryz.prog 179 #[tyv sg sh sz lo hi tx fn (.slice pa pn pc), bv] W fun e w' => (∃ va m c a' c', e = .returned (.tuple #[vv n s (.slice va m c), .slice a' 0 c', .bool true]) ∧ pv W va m c w') ∧ Below W.heap.size W w')) :
    Calls Tryz.prog 134 #[tyv sg sh sz lo hi tx fn (.slice pa pn pc), bv] w fun e w' => (∃ va m c W wb, e = .returned (.tuple #[vv n s (.slice va m c), .bool true]) ∧ pv W va m c wb ∧ w.heap.size + 2 ≤ W.heap.size ∧ w'.heap.size = wb.heap.size + 1 ∧ ∀ b, b < wb.heap.size → b ≠ w.heap.size + 1 → w'.heap[b]? = wb.heap[b]?) ∧ Below w.heap.size w w' := by
  obtain ⟨n0, n1⟩ := new2 w (.cells #[.int .u8 sg, .int .i64 sh, .int .i64 sz, .int .i64 lo, .int .i64 hi, .bool tx, .int .u8 fn, .slice pa pn pc] 227) (.cells #[.int .i64 0, .string ⟨#[]⟩, .slice none 0 0] 113)
  have N1 := hide n1
  clear n0 n1
  have HSZ : Hid (w.heap.size + 2 ≤ ((w.alloc (.cells #[.int .u8 sg, .int .i64 sh, .int .i64 sz, .int .i64 lo, .int .i64 hi, .bool tx, .int .u8 fn, .slice pa pn pc] 227)).alloc (.cells #[.int .i64 0, .string ⟨#[]⟩, .slice none 0 0] 113)).heap.size) := by show _ ≤ _; simp
  go_enter Tryz.func134, Tryz.ntmps134
  go_wp2_with (first
    | (refine wpList_store_row rfl 113 _ _ rfl (w.heap.size + 1) #[.int .i64 n, .string s, .slice va m c] rfl rfl 113 _ HH2.out Tryz.size113 rfl (one_v _ _ _ _ _) ?_)
    | (go_at_call 179; refine (HC.out _ (below2 _ _ _)).mono ?_; rintro e w1 ⟨⟨va, m, c, a', c', rfl, hpv⟩, hb1⟩; have HB1 : Hid (Below w.heap.size w w1) := (below2 _ _ _).trans (hb1.mono (by simp; omega)); have HH : Hid (w1.heap[w.heap.size + 1]? = some (.cells #[.int .i64 0, .string ⟨#[]⟩, .slice none 0 0] 113)) := (hb1.block _ (ltOf N1.out)).trans N1.out; have HH2 : Hid ((w1.alloc (.cells #[.int .i64 n, .string s, .slice va m c] 113)).heap[w.heap.size + 1]? = some (.cells #[.int .i64 0, .string ⟨#[]⟩, .slice none 0 0] 113)) := (Below.heap_alloc _ _ _ (ltOf HH.out)).trans HH.out; have HPV := hide hpv; clear hpv; clear hb1))
  refine bp_gen (fun X => X.heap[w.heap.size + 1]? = some (.cells #[.int .i64 n, .string s, .slice va m c] 113) ∧ Below w.heap.size w X ∧ X.heap.size = w1.heap.size + 1 ∧ ∀ b, b < w1.heap.size → b ≠ w.heap.size + 1 → X.heap[b]? = w1.heap[b]?) ⟨setRow_heap _ _ _ _ _ _ HH2.out, below_setRow (HB1.out.alloc HB1.out.size _) (Nat.le_succ _) _, by simp, fun b hlt hb => (setRow_other _ _ _ _ hb).trans (Below.heap_alloc _ _ _ hlt)⟩ ?_
  rintro X ⟨HQ, hbX, hsX, hkX⟩
  have c0 := cellOf (j := 0) HQ rfl
  have c1 := cellOf (j := 1) HQ rfl
  have c2 := cellOf (j := 2) HQ rfl
  have HBX := hide hbX
  have HSX := hide hsX
  have HKX := hide hkX
  clear hbX hsX hkX HQ
  exact bodyPost_ret (v := .tuple #[vv n s (.slice va m c), .bool true]) (by simp [results, Tryz.results134, go_sem, c0, c1, c2]) rfl ⟨⟨va, m, c, _, w1, rfl, HPV.out, HSZ.out, HSX.out, HKX.out⟩, HBX.out⟩

section
variable {valid : ByteArray → Bool} {Tabs : World → Prop}

theorem vd_any (U : Utf valid Tabs) (w : World) (hT : Tabs w) (t : Orch.Ty) (hok : okT 9 t) (S : Nat → Prop) (psv : Value) (hts : TsAt w S t.ps psv) (hS : ∀ b, S b → b < w.heap.size) (bv : Value) (l : List UInt8) (hl : l.length ≤ 9223372036854775807) (hbv : BsAt w bv l) :
    Calls Tryz.prog 134 #[tval t.l psv, bv] w fun e w' => vdRes w w' e (vdec valid t l) ∧ Below w.heap.size w w' := by
  obtain ⟨pa, pc, rfl⟩ := hts.shape
  have hc : ∀ W, Below w.heap.size w W → Calls Tryz.prog 179 #[tval t.l (.slice pa t.ps.length pc), bv] W fun e w' => vtRes W w' bv l e (vtake valid t l) ∧ Below W.heap.size W w' := fun W hbW =>
    vt_any U W (U.kept (U.size hT) hbW hT) t hok S _ (hts.congr (fun _ h' => h') (fun b hb => hbW.block b (hS b hb))) (fun b hb => Nat.lt_of_lt_of_le (hS b hb) hbW.size) _ l hl (hbv.below hbW (Nat.le_refl _))
  rw [take_short]
  cases hq : vtake valid t l with
  | none =>
    rw [hq] at hc
    exact vd_none w _ _ _ _ _ _ _ pa _ pc bv hc
  | some vr =>
    obtain ⟨v, rest⟩ := vr
    rw [hq] at hc
    cases rest with
    | cons y ys =>
      refine vd_rest w _ _ _ _ _ _ _ pa _ pc bv (fun W hbW => (hc W hbW).mono ?_)
      rintro e w' ⟨⟨lv, rv, rfl, hv, ht, _⟩, hb'⟩
      obtain ⟨va, vc, rfl⟩ := hv.shape
      obtain ⟨b', off', cap', rfl, _⟩ := ht w hbv
      exact ⟨⟨_, _, _, _, _, _, _, _, rfl, by simp⟩, hb'⟩
    | nil =>
      refine (vd_ok w _ _ _ _ _ _ _ pa _ pc bv v.n v.s (fun W va m c w' => OwnV W.heap.size w' v.l (.slice va m c)) (fun W hbW => (hc W hbW).mono ?_)).mono ?_
      · rintro e w' ⟨⟨lv, rv, rfl, hv, ht, ho⟩, hb'⟩
        obtain ⟨va, vc, rfl⟩ := hv.shape
        obtain ⟨b', off', cap', rfl, _⟩ := ht w hbv
        exact ⟨⟨va, _, vc, _, cap', rfl, ho⟩, hb'⟩
      · rintro e w' ⟨⟨va, m, c, W, wb, rfl, hv, hs, hsz, hk⟩, hb'⟩
        exact ⟨⟨_, rfl, hv.keep (by omega) (by omega) (fun b hb hlt => hk b hlt (by omega))⟩, hb'⟩
end
end Go.Proofs.YtlghcldiboecoaaGreatDoor

/- Decode, whole. -/
set_option linter.unusedVariables false
namespace Go.Proofs.YtlghcldiboecoaaGreatDoor
open Go.RowKit

/-- What Decode leaves. -/
def dRes (w w' : World) (e : Ending) : Except Nat Orch.V → Prop
  | .error c => e = .returned (.tuple #[vv 0 ⟨#[]⟩ (.slice none 0 0), .int .i64 c])
  | .ok v => ∃ lv, e = .returned (.tuple #[vval v lv, .int .i64 0]) ∧ OwnV w.heap.size w' v.l lv

set_option maxRecDepth 8000 in
set_option maxHeartbeats 1000000 in
theorem d_schema (w : World) (str : ByteArray) (bv : Value)
    (HC : Hid (∀ W, Below w.heap.size w W → Calls Tryz.prog 129 #[.string str] W fun e w' => parseRes W w' e none ∧ Below W.heap.size W w')) :
    Calls Tryz.prog 88 #[.string str, bv] w fun e w' => dRes w w' e (.error 1) ∧ Below w.heap.size w w' := by
  have N0 := hide (heap_alloc_new w (.cells #[.int .i64 0, .string ⟨#[]⟩, .slice none 0 0] 113))
  go_enter Tryz.func88, Tryz.ntmps88
  go_wp2_with (first
    | (refine wpList_store_row rfl 113 _ _ rfl w.heap.size #[.int .i64 0, .string ⟨#[]⟩, .slice none 0 0] rfl rfl 113 _ HH2.out Tryz.size113 rfl (one_v _ _ _ _ _) ?_)
    | (go_at_call 129; refine (HC.out _ (below1 _ _)).mono ?_; rintro e w1 ⟨⟨sg, sh, sz, lo, hi, tx, fn, p, m, n, rfl⟩, hb1⟩; have HB1 : Hid (Below w.heap.size w w1) := (below1 _ _).trans (hb1.mono (by simp)); have HH : Hid (w1.heap[w.heap.size]? = some (.cells #[.int .i64 0, .string ⟨#[]⟩, .slice none 0 0] 113)) := (hb1.block _ (ltOf N0.out)).trans N0.out; have HH2 : Hid ((w1.alloc (.cells #[.int .u8 sg, .int .i64 sh, .int .i64 sz, .int .i64 lo, .int .i64 hi, .bool tx, .int .u8 fn, .slice p m n] 227)).heap[w.heap.size]? = some (.cells #[.int .i64 0, .string ⟨#[]⟩, .slice none 0 0] 113)) := (Below.heap_alloc _ _ _ (ltOf HH.out)).trans HH.out; clear hb1))
  refine bp_gen (fun X => X.heap[w.heap.size]? = some (.cells #[.int .i64 0, .string ⟨#[]⟩, .slice none 0 0] 113) ∧ Below w.heap.size w X ∧ X.heap.size = w1.heap.size + 1 ∧ ∀ b, b < w1.heap.size → b ≠ w.heap.size → X.heap[b]? = w1.heap[b]?) ⟨setRow_heap _ _ _ _ _ _ HH2.out, below_setRow (HB1.out.alloc HB1.out.size _) (Nat.le_refl _) _, by simp, fun b hlt hb => (setRow_other _ _ _ _ hb).trans (Below.heap_alloc _ _ _ hlt)⟩ ?_
  rintro X ⟨HQ, hbX, hsX, hkX⟩
  have c0 := cellOf (j := 0) HQ rfl
  have c1 := cellOf (j := 1) HQ rfl
  have c2 := cellOf (j := 2) HQ rfl
  have HBX := hide hbX
  have HSX := hide hsX
  have HKX := hide hkX
  clear hbX hsX hkX HQ
  exact bodyPost_ret (v := .tuple #[vv 0 ⟨#[]⟩ (.slice none 0 0), .int .i64 1]) (by simp [results, Tryz.results88, go_sem, c0, c1, c2]) rfl ⟨rfl, HBX.out⟩

set_option maxRecDepth 8000 in
set_option maxHeartbeats 1000000 in
theorem d_bytes (w : World) (str : ByteArray) (bv : Value) (sg sh sz : Nat) (lo hi : Int) (tx : Bool) (fn : Nat) (q : Option Addr → Nat → Nat → World → Prop)
    (HC : Hid (∀ W, Below w.heap.size w W → w.heap.size < W.heap.size → Calls Tryz.prog 129 #[.string str] W fun e w' => (∃ p m n, e = .returned (.tuple #[tyv sg sh sz lo hi tx fn (.slice p m n), .bool true]) ∧ q p m n w') ∧ Below W.heap.size W w'))
    (HD : Hid (∀ wb W p m n, q p m n wb → Below wb.heap.size wb W → Below w.heap.size w W → w.heap.size < W.heap.size → Calls Tryz.prog 134 #[tyv sg sh sz lo hi tx fn (.slice p m n), bv] W fun e w' => (∃ vn vs va vm vc, e = .returned (.tuple #[vv vn vs (.slice va vm vc), .bool false])) ∧ Below W.heap.size W w')) :
    Calls Tryz.prog 88 #[.string str, bv] w fun e w' => dRes w w' e (.error 3) ∧ Below w.heap.size w w' := by
  have N0 := hide (heap_alloc_new w (.cells #[.int .i64 0, .string ⟨#[]⟩, .slice none 0 0] 113))
  have HS0 : Hid (w.heap.size < (w.alloc (.cells #[.int .i64 0, .string ⟨#[]⟩, .slice none 0 0] 113)).heap.size) := by show _ < _; simp
  go_enter Tryz.func88, Tryz.ntmps88
  go_wp2_with (first
    | (refine wpList_store_row rfl 113 _ _ rfl w.heap.size #[.int .i64 0, .string ⟨#[]⟩, .slice none 0 0] rfl rfl 113 _ HH2.out Tryz.size113 rfl (one_v _ _ _ _ _) ?_)
    | (go_at_call 129; refine (HC.out _ (below1 _ _) HS0.out).mono ?_; rintro e w1 ⟨⟨p, m, n, rfl, hq⟩, hb1⟩; have HQV := hide hq; have HB1 : Hid (Below w.heap.size w w1) := (below1 _ _).trans (hb1.mono (by simp)); have HH : Hid (w1.heap[w.heap.size]? = some (.cells #[.int .i64 0, .string ⟨#[]⟩, .slice none 0 0] 113)) := (hb1.block _ (ltOf N0.out)).trans N0.out; clear hb1 hq)
    | (go_at_call 134; refine (HD.out w1 _ p m n HQV.out (below1 _ _) (HB1.out.alloc HB1.out.size _) (by have := ltOf HH.out; simp; omega)).mono ?_; rintro e w2 ⟨⟨vn, vs, va, vm, vc, rfl⟩, hb2⟩; have HB2 : Hid (Below w.heap.size w w2) := (HB1.out.alloc HB1.out.size _).trans (hb2.mono (by have := HB1.out.size; simp; omega)); have HB2b := hide hb2; have HH1 : Hid (w2.heap[w.heap.size]? = some (.cells #[.int .i64 0, .string ⟨#[]⟩, .slice none 0 0] 113)) := (hb2.block _ (by have := ltOf HH.out; simp; omega)).trans ((Below.heap_alloc _ _ _ (ltOf HH.out)).trans HH.out); have HH2 : Hid ((w2.alloc (.cells #[.int .i64 vn, .string vs, .slice va vm vc] 113)).heap[w.heap.size]? = some (.cells #[.int .i64 0, .string ⟨#[]⟩, .slice none 0 0] 113)) := (Below.heap_alloc _ _ _ (ltOf HH1.out)).trans HH1.out; clear hb2))
  refine bp_gen (fun X => X.heap[w.heap.size]? = some (.cells #[.int .i64 0, .string ⟨#[]⟩, .slice none 0 0] 113) ∧ Below w.heap.size w X ∧ X.heap.size = w2.heap.size + 1 ∧ ∀ b, b < w2.heap.size → b ≠ w.heap.size → X.heap[b]? = w2.heap[b]?) ⟨setRow_heap _ _ _ _ _ _ HH2.out, below_setRow (HB2.out.alloc HB2.out.size _) (Nat.le_refl _) _, by simp, fun b hlt hb => (setRow_other _ _ _ _ hb).trans (Below.heap_alloc _ _ _ hlt)⟩ ?_
  rintro X ⟨HQ, hbX, hsX, hkX⟩
  have c0 := cellOf (j := 0) HQ rfl
  have c1 := cellOf (j := 1) HQ rfl
  have c2 := cellOf (j := 2) HQ rfl
  have HBX := hide hbX
  have HSX := hide hsX
  have HKX := hide hkX
  clear hbX hsX hkX HQ
  exact bodyPost_ret (v := .tuple #[vv 0 ⟨#[]⟩ (.slice none 0 0), .int .i64 3]) (by simp [results, Tryz.results88, go_sem, c0, c1, c2]) rfl ⟨rfl, HBX.out⟩

set_option maxRecDepth 8000 in
set_option maxHeartbeats 1000000 in
theorem d_ok (w : World) (str : ByteArray) (bv : Value) (sg sh sz : Nat) (lo hi : Int) (tx : Bool) (fn : Nat) (q : Option Addr → Nat → Nat → World → Prop) (vn : Int) (vs : ByteArray) (r : World → Option Addr → Nat → Nat → World → Prop)
    (HC : Hid (∀ W, Below w.heap.size w W → w.heap.size < W.heap.size → Calls Tryz.prog 129 #[.string str] W fun e w' => (∃ p m n, e = .returned (.tuple #[tyv sg sh sz lo hi tx fn (.slice p m n), .bool true]) ∧ q p m n w') ∧ Below W.heap.size W w'))
    (HD : Hid (∀ wb W p m n, q p m n wb → Below wb.heap.size wb W → Below w.heap.size w W → w.heap.size < W.heap.size → Calls Tryz.prog 134 #[tyv sg sh sz lo hi tx fn (.slice p m n), bv] W fun e w' => (∃ va vm vc, e = .returned (.tuple #[vv vn vs (.slice va vm vc), .bool true]) ∧ r W va vm vc w') ∧ Below W.heap.size W w')) :
    Calls Tryz.prog 88 #[.string str, bv] w fun e w' => (∃ va vm vc W wb, e = .returned (.tuple #[vv vn vs (.slice va vm vc), .int .i64 0]) ∧ r W va vm vc wb ∧ w.heap.size < W.heap.size ∧ wb.heap.size ≤ w'.heap.size ∧ ∀ b, b < wb.heap.size → b ≠ w.heap.size → w'.heap[b]? = wb.heap[b]?) ∧ Below w.heap.size w w' := by
  have N0 := hide (heap_alloc_new w (.cells #[.int .i64 0, .string ⟨#[]⟩, .slice none 0 0] 113))
  have HS0 : Hid (w.heap.size < (w.alloc (.cells #[.int .i64 0, .string ⟨#[]⟩, .slice none 0 0] 113)).heap.size) := by show _ < _; simp
  go_enter Tryz.func88, Tryz.ntmps88
  go_wp2_with (first
    | (refine wpList_store_row rfl 113 _ _ rfl w.heap.size #[.int .i64 vn, .string vs, .slice va vm vc] rfl rfl 113 _ HH2.out Tryz.size113 rfl (one_v _ _ _ _ _) ?_)
    | (go_at_call 129; refine (HC.out _ (below1 _ _) HS0.out).mono ?_; rintro e w1 ⟨⟨p, m, n, rfl, hq⟩, hb1⟩; have HQV := hide hq; have HB1 : Hid (Below w.heap.size w w1) := (below1 _ _).trans (hb1.mono (by simp)); have HH : Hid (w1.heap[w.heap.size]? = some (.cells #[.int .i64 0, .string ⟨#[]⟩, .slice none 0 0] 113)) := (hb1.block _ (ltOf N0.out)).trans N0.out; clear hb1 hq)
    | (go_at_call 134; refine (HD.out w1 _ p m n HQV.out (below1 _ _) (HB1.out.alloc HB1.out.size _) (by have := ltOf HH.out; simp; omega)).mono ?_; rintro e w2 ⟨⟨va, vm, vc, rfl, hr⟩, hb2⟩; have HB2 : Hid (Below w.heap.size w w2) := (HB1.out.alloc HB1.out.size _).trans (hb2.mono (by have := HB1.out.size; simp; omega)); have HB2b := hide hb2; have HH1 : Hid (w2.heap[w.heap.size]? = some (.cells #[.int .i64 0, .string ⟨#[]⟩, .slice none 0 0] 113)) := (hb2.block _ (by have := ltOf HH.out; simp; omega)).trans ((Below.heap_alloc _ _ _ (ltOf HH.out)).trans HH.out); have HH2 : Hid ((w2.alloc (.cells #[.int .i64 vn, .string vs, .slice va vm vc] 113)).heap[w.heap.size]? = some (.cells #[.int .i64 0, .string ⟨#[]⟩, .slice none 0 0] 113)) := (Below.heap_alloc _ _ _ (ltOf HH1.out)).trans HH1.out; have HRV := hide hr; clear hr; clear hb2))
  refine bp_gen (fun X => X.heap[w.heap.size]? = some (.cells #[.int .i64 vn, .string vs, .slice va vm vc] 113) ∧ Below w.heap.size w X ∧ X.heap.size = w2.heap.size + 1 ∧ ∀ b, b < w2.heap.size → b ≠ w.heap.size → X.heap[b]? = w2.heap[b]?) ⟨setRow_heap _ _ _ _ _ _ HH2.out, below_setRow (HB2.out.alloc HB2.out.size _) (Nat.le_refl _) _, by simp, fun b hlt hb => (setRow_other _ _ _ _ hb).trans (Below.heap_alloc _ _ _ hlt)⟩ ?_
  rintro X ⟨HQ, hbX, hsX, hkX⟩
  have c0 := cellOf (j := 0) HQ rfl
  have c1 := cellOf (j := 1) HQ rfl
  have c2 := cellOf (j := 2) HQ rfl
  have HBX := hide hbX
  have HSX := hide hsX
  have HKX := hide hkX
  clear hbX hsX hkX HQ
  exact bodyPost_ret (v := .tuple #[vv vn vs (.slice va vm vc), .int .i64 0]) (by simp [results, Tryz.results88, go_sem, c0, c1, c2]) rfl ⟨⟨va, vm, vc, _, w2, rfl, HRV.out, by have := ltOf HH.out; simp; omega, by rw [HSX.out]; omega, HKX.out⟩, HBX.out⟩

def vdE : Option Orch.V → Except Nat Orch.V
  | none => .error 3
  | some v => .ok v

theorem decode_some (valid : ByteArray → Bool) {s : List UInt8} {t : Orch.Ty} (h : Orch.parse s = some t) (l : List UInt8) : Orch.decode valid s l = vdE (vdec valid t l) := by
  unfold Orch.decode vdec
  rw [h]
  by_cases hl : 1000 < l.length
  · simp [hl, vdE]
  · simp only [if_neg hl]
    cases Orch.take valid 9 t l with
    | none => rfl
    | some vr =>
      obtain ⟨v, rest⟩ := vr
      cases rest <;> rfl

section
variable {valid : ByteArray → Bool} {Tabs : World → Prop}

/-- Decode: every text, whatever bytes. -/
theorem decode_any (U : Utf valid Tabs) (w : World) (hT : Tabs w) (hL : Table w) (str : ByteArray) (bv : Value) (l : List UInt8) (hl : l.length ≤ 9223372036854775807) (hbv : BsAt w bv l) :
    Calls Tryz.prog 88 #[.string str, bv] w fun e w' => dRes w w' e (Orch.decode valid str.data.toList l) ∧ Below w.heap.size w w' := by
  have hp : ∀ W, Below w.heap.size w W → Calls Tryz.prog 129 #[.string str] W fun e w' => parseRes W w' e (Orch.parse str.data.toList) ∧ Below W.heap.size W w' := fun W hb => parse_any W str (hL.below hb hL.pos)
  cases hq : Orch.parse str.data.toList with
  | none =>
    rw [hq] at hp
    have he : Orch.decode valid str.data.toList l = .error 1 := by unfold Orch.decode; rw [hq]
    rw [he]
    exact d_schema w str bv hp
  | some t =>
    have hok := parse_ok hq
    rw [hq] at hp
    have hp' : ∀ W, Below w.heap.size w W → w.heap.size < W.heap.size → Calls Tryz.prog 129 #[.string str] W fun e w' => (∃ p m n, e = .returned (.tuple #[tyv t.l.sign.toNat t.l.shape t.l.size t.l.least t.l.most t.l.text t.l.fin.toNat (.slice p m n), .bool true]) ∧ TsAt w' (fun b => b < w'.heap.size) t.ps (.slice p m n)) ∧ Below W.heap.size W w' := fun W hb _ => (hp W hb).mono (by
      rintro e w' ⟨⟨psv, rfl, hts⟩, hb'⟩
      obtain ⟨pa, pc, rfl⟩ := hts.shape
      exact ⟨⟨pa, _, pc, rfl, hts.congr (fun b hb => hb.2) (fun _ _ => rfl)⟩, hb'⟩)
    have hd : ∀ wb W p m n, TsAt wb (fun b => b < wb.heap.size) t.ps (.slice p m n) → Below wb.heap.size wb W → Below w.heap.size w W → w.heap.size < W.heap.size → Calls Tryz.prog 134 #[tval t.l (.slice p m n), bv] W fun e w' => vdRes W w' e (vdec valid t l) ∧ Below W.heap.size W w' := fun wb W p m n hts hbW hbw _ =>
      vd_any U W (U.kept (U.size hT) hbw hT) t hok (fun b => b < wb.heap.size) _ (hts.congr (fun _ h => h) (fun b hb => hbW.block b hb)) (fun b hb => Nat.lt_of_lt_of_le hb hbW.size) bv l hl (hbv.below hbw (Nat.le_refl _))
    have hdec := decode_some valid hq l
    rw [hdec]
    cases hv : vdec valid t l with
    | none =>
      rw [hv] at hd
      refine d_bytes w str bv _ _ _ _ _ _ _ (fun p m n w' => TsAt w' (fun b => b < w'.heap.size) t.ps (.slice p m n)) hp' (fun wb W p m n h1 h2 h3 h4 => (hd wb W p m n h1 h2 h3 h4).mono ?_)
      rintro e w' ⟨rfl, hb'⟩
      exact ⟨⟨_, _, _, _, _, rfl⟩, hb'⟩
    | some v =>
      rw [hv] at hd
      refine (d_ok w str bv _ _ _ _ _ _ _ (fun p m n w' => TsAt w' (fun b => b < w'.heap.size) t.ps (.slice p m n)) v.n v.s (fun W va vm vc w' => OwnV W.heap.size w' v.l (.slice va vm vc)) hp' (fun wb W p m n h1 h2 h3 h4 => (hd wb W p m n h1 h2 h3 h4).mono ?_)).mono ?_
      · rintro e w' ⟨⟨lv, rfl, hvs⟩, hb'⟩
        obtain ⟨va, vc, rfl⟩ := OwT.shape hvs
        exact ⟨⟨va, _, vc, rfl, hvs⟩, hb'⟩
      · rintro e w' ⟨⟨va, vm, vc, W, wb, rfl, hr, hs, hsz, hk⟩, hb'⟩
        exact ⟨⟨_, rfl, hr.keep (by omega) (by omega) (fun b hb hlt => hk b hlt (by omega))⟩, hb'⟩
end
end Go.Proofs.YtlghcldiboecoaaGreatDoor
