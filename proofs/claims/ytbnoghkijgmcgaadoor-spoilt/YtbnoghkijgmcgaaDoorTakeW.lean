/- take, whole; Decode of package value. -/
import Derived.Test.YtbnoghkijgmcgaaDoorTakeA
import Derived.Test.YtbnoghkijgmcgaaDoorTakeN
import Derived.Test.YtbnoghkijgmcgaaDoorTakeB
set_option linter.unusedVariables false
namespace Go.Proofs.YtbnoghkijgmcgaaDoor
open Go.RowKit

def cntEnd (b off cap k n : Nat) (e : Ending) : Prop := ∃ b' off' cap', e = .returned (.tuple #[.int .i64 n, .slice (some ⟨b', off', none⟩) (k - 4) cap', .bool true]) ∧ ((cap = 4 ∧ b' = b ∧ off' = off ∧ cap' = 0) ∨ (¬ cap = 4 ∧ b' = b ∧ off' = off + 4 ∧ cap' = cap - 4))

set_option maxRecDepth 8000 in
set_option maxHeartbeats 400000 in
/-- takeCount: the very slice that is left. -/
theorem takeCount_exact (w : World) (b off cap : Nat) (l : List UInt8) (hl : l.length ≤ 1000) (hcap : l.length ≤ cap) (hb : Bytes w b off l) (most : Nat) (hm : most ≤ 1000) (n : Nat) (rest : List UInt8) (hc : Orch.count l most = some (n, rest)) :
    Calls Tryd.prog 61 #[.slice (some ⟨b, off, none⟩) l.length cap, .int .i64 most] w fun e w' => cntEnd b off cap l.length n e ∧ Below w.heap.size w w' := by
  unfold Orch.count at hc
  split at hc
  · cases hc
  · split at hc
    · cases hc
    · rename_i h4 hu
      simp only [Option.some.injEq, Prod.mk.injEq] at hc
      obtain ⟨rfl, rfl⟩ := hc
      have cU := unsigned_any w b off 4 cap (l.take 4) (by rw [List.length_take]; omega) (by omega) (hb.take 4)
      have h4z : ¬ (l.length : Int) < 4 := by omega
      have hX : Orch.uns (l.take 4) < 4294967296 := by
        have := Orch.uns_lt (l.take 4)
        rw [List.length_take] at this
        rw [show min 4 l.length = 4 by omega] at this
        exact this
      clear hb
      generalize Orch.uns (l.take 4) = X at *
      have huz : ¬ (most : Int) < X := by omega
      generalize l.length = k at *
      go_enter Tryd.func61, Tryd.ntmps61
      go_wp2_with (go_at_call 50; refine cU.mono ?_; rintro e w' ⟨rfl, rfl⟩)
      go_region
      all_goals go_wp2
      all_goals go_ret3
      all_goals first
        | exact ⟨⟨b, off, 0, rfl, Or.inl ⟨rfl, rfl, rfl, rfl⟩⟩, below_drew _⟩
        | exact ⟨⟨b, off + 4, cap - 4, rfl, Or.inr ⟨‹_›, rfl, rfl, rfl⟩⟩, below_drew _⟩

set_option maxRecDepth 8000 in
set_option maxHeartbeats 400000 in
theorem takeNumber_short (w : World) (sg sh sz : Nat) (lo hi : Int) (tx : Bool) (fn : Nat) (pa : Option Addr) (pn pc k cap : Nat) (a : Option Addr) (hk : k ≤ 1000) (hs : sz ≤ 8) (h4 : k < sz) :
    Calls Tryd.prog 59 #[tyv sg sh sz lo hi tx fn (.slice pa pn pc), .slice a k cap] w fun e w' => noneEnd e ∧ Below w.heap.size w w' := by
  have h4z : (k : Int) < (sz : Int) := by omega
  go_enter Tryd.func59, Tryd.ntmps59
  go_wp2
  exact bodyPost_ret (v := .tuple #[vv 0 ⟨#[]⟩ (.slice none 0 0), .slice none 0 0, .bool false]) (by simp [results, Tryd.results59, go_sem]) rfl ⟨⟨_, _, _, _, _, _, _, _, rfl⟩, below2 _ _ _⟩

set_option maxRecDepth 8000 in
set_option maxHeartbeats 400000 in
/-- takeBytes, where there is no count. -/
theorem takeBytes_none (w : World) (sg sh sz lo hi : Int) (tx : Bool) (fn : Int) (pa : Option Addr) (pn pc : Nat) (bv : Value)
    (HC : Hid (∀ w', Below w.heap.size w w' → Calls Tryd.prog 61 #[bv, .int .i64 200] w' fun e w'' => e = .returned (.tuple #[.int .i64 0, .slice none 0 0, .bool false]) ∧ Below w'.heap.size w' w'')) :
    Calls Tryd.prog 60 #[tyv sg sh sz lo hi tx fn (.slice pa pn pc), bv] w fun e w' => noneEnd e ∧ Below w.heap.size w w' := by
  obtain ⟨n0, n1⟩ := new2 w (.cells #[.int .u8 sg, .int .i64 sh, .int .i64 sz, .int .i64 lo, .int .i64 hi, .bool tx, .int .u8 fn, .slice pa pn pc] 62) (.cells #[.int .i64 0, .string ⟨#[]⟩, .slice none 0 0] 31)
  have N1 := hide n1
  clear n0 n1
  go_enter Tryd.func60, Tryd.ntmps60
  go_wp2_with (first
    | (refine wpList_store_row rfl 31 _ _ rfl (w.heap.size + 1) #[.int .i64 0, .string ⟨#[]⟩, .slice none 0 0] rfl rfl 31 _ HH.out Tryd.size31 rfl (one_v _ _ _ _ _) ?_)
    | (go_at_call 61; refine (HC.out _ (below2 _ _ _)).mono ?_; rintro e w1 ⟨rfl, hb1⟩; have HH : Hid (w1.heap[w.heap.size + 1]? = some (.cells #[.int .i64 0, .string ⟨#[]⟩, .slice none 0 0] 31)) := (hb1.block _ (ltOf N1.out)).trans N1.out; have HB1 : Hid (Below w.heap.size w w1) := (below2 _ _ _).trans (hb1.mono (by simp; omega)); clear hb1))
  refine bp_gen (fun X => X.heap[w.heap.size + 1]? = some (.cells #[.int .i64 0, .string ⟨#[]⟩, .slice none 0 0] 31) ∧ Below w.heap.size w X) ⟨setRow_heap _ _ _ _ _ _ HH.out, below_setRow HB1.out (Nat.le_succ _) _⟩ ?_
  rintro X ⟨HQ, hbX⟩
  have c0 := cellOf (j := 0) HQ rfl
  have c1 := cellOf (j := 1) HQ rfl
  have c2 := cellOf (j := 2) HQ rfl
  have HBX := hide hbX
  clear hbX HQ
  exact bodyPost_ret (v := .tuple #[vv 0 ⟨#[]⟩ (.slice none 0 0), .slice none 0 0, .bool false]) (by simp [results, Tryd.results60, go_sem, c0, c1, c2]) rfl ⟨⟨_, _, _, _, _, _, _, _, rfl⟩, HBX.out⟩

set_option maxRecDepth 8000 in
set_option maxHeartbeats 400000 in
/-- .. where there are fewer bytes than are counted. -/
theorem takeBytes_short (w : World) (sg sh sz lo hi : Int) (tx : Bool) (fn : Int) (pa : Option Addr) (pn pc : Nat) (bv : Value) (b off k n cap : Nat) (hk : k < n) (hn : n ≤ 200)
    (HC : Hid (∀ w', Below w.heap.size w w' → Calls Tryd.prog 61 #[bv, .int .i64 200] w' fun e w'' => e = .returned (.tuple #[.int .i64 n, .slice (some ⟨b, off, none⟩) k cap, .bool true]) ∧ Below w'.heap.size w' w'')) :
    Calls Tryd.prog 60 #[tyv sg sh sz lo hi tx fn (.slice pa pn pc), bv] w fun e w' => noneEnd e ∧ Below w.heap.size w w' := by
  have hkz : (k : Int) < (n : Int) := by omega
  obtain ⟨n0, n1⟩ := new2 w (.cells #[.int .u8 sg, .int .i64 sh, .int .i64 sz, .int .i64 lo, .int .i64 hi, .bool tx, .int .u8 fn, .slice pa pn pc] 62) (.cells #[.int .i64 0, .string ⟨#[]⟩, .slice none 0 0] 31)
  have N1 := hide n1
  clear n0 n1
  go_enter Tryd.func60, Tryd.ntmps60
  go_wp2_with (first
    | (refine wpList_store_row rfl 31 _ _ rfl (w.heap.size + 1) #[.int .i64 0, .string ⟨#[]⟩, .slice none 0 0] rfl rfl 31 _ HH.out Tryd.size31 rfl (one_v _ _ _ _ _) ?_)
    | (go_at_call 61; refine (HC.out _ (below2 _ _ _)).mono ?_; rintro e w1 ⟨rfl, hb1⟩; have HH : Hid (w1.heap[w.heap.size + 1]? = some (.cells #[.int .i64 0, .string ⟨#[]⟩, .slice none 0 0] 31)) := (hb1.block _ (ltOf N1.out)).trans N1.out; have HB1 : Hid (Below w.heap.size w w1) := (below2 _ _ _).trans (hb1.mono (by simp; omega)); clear hb1))
  refine bp_gen (fun X => X.heap[w.heap.size + 1]? = some (.cells #[.int .i64 0, .string ⟨#[]⟩, .slice none 0 0] 31) ∧ Below w.heap.size w X) ⟨setRow_heap _ _ _ _ _ _ HH.out, below_setRow HB1.out (Nat.le_succ _) _⟩ ?_
  rintro X ⟨HQ, hbX⟩
  have c0 := cellOf (j := 0) HQ rfl
  have c1 := cellOf (j := 1) HQ rfl
  have c2 := cellOf (j := 2) HQ rfl
  have HBX := hide hbX
  clear hbX HQ
  exact bodyPost_ret (v := .tuple #[vv 0 ⟨#[]⟩ (.slice none 0 0), .slice none 0 0, .bool false]) (by simp [results, Tryd.results60, go_sem, c0, c1, c2]) rfl ⟨⟨_, _, _, _, _, _, _, _, rfl⟩, HBX.out⟩

section
variable {valid : ByteArray → Bool} {Tabs : World → Prop}

theorem num_any (U : Utf valid Tabs) (w : World) (hT : Tabs w) (k : Nat) (t : Orch.Ty) (hok : okT (k + 1) t) (hsh : t.l.shape = 0) (pa : Option Addr) (pc : Nat) (bv : Value) (l : List UInt8) (hl : l.length ≤ 1000) (hbv : BsAt w bv l) :
    Calls Tryd.prog 59 #[tval t.l (.slice pa t.ps.length pc), bv] w fun e w' => takeRes w w' bv l e (Orch.take valid (k + 1) t l) ∧ Below w.heap.size w w' := by
  obtain ⟨b, off, cap, rfl, hcap, hlt, hb⟩ := hbv
  have hsz := letters_size hok.1 hsh
  rw [Orch.take]
  simp only [hsh]
  by_cases h4 : l.length < t.l.size
  · rw [if_pos h4]
    exact takeNumber_short w _ _ _ _ _ _ _ pa _ pc l.length cap _ hl (by omega) h4
  · rw [if_neg h4]
    have hS : ∀ (w : World) (b off cap : Nat) (x : List UInt8), x.length = t.l.size → Bytes w b off x → Calls Tryd.prog 51 #[.slice (some ⟨b, off, none⟩) t.l.size cap] w fun e w' => e = .returned (.int .i64 (Orch.sgn x)) ∧ w' = w := by
      rcases hsz with h | h | h <;> rw [h]
      · exact fun w b off cap x => signed_1 w b off cap x
      · exact fun w b off cap x => signed_4 w b off cap x
      · exact fun w b off cap x => signed_8 w b off cap x
    refine (takeNumber_core (Tabs := Tabs) w t.l.sign.toNat t.l.shape t.l.size t.l.least t.l.most t.l.text t.l.fin.toNat pa t.ps.length pc b off l.length cap (Orch.sgn (l.take t.l.size)) (Orch.fits valid t (.mk (Orch.sgn (l.take t.l.size)) ⟨#[]⟩ [])) hl hcap (by omega) hlt h4
      (fun w' h => fits_any U w' h t hok pa pc (.mk (Orch.sgn (l.take t.l.size)) ⟨#[]⟩ []) none 0) (fun w' h => U.kept (U.size hT) h hT)
      (fun w' hbw => hS w' b off cap (l.take t.l.size) (by rw [List.length_take]; omega) (fun i hi => (hbw.cell (p := ⟨b, off + i, none⟩) hlt).trans (hb.take _ i hi)))).mono ?_
    rintro e w' ⟨rv, rfl, hrv, hbb⟩
    refine ⟨?_, hbb⟩
    have he : (ByteArray.empty) = (⟨#[]⟩ : ByteArray) := rfl
    rw [he]
    cases hf : Orch.fits valid t (.mk (Orch.sgn (l.take t.l.size)) ⟨#[]⟩ []) with
    | false =>
      rw [if_neg (by simp), hrv]
      by_cases hc : cap = t.l.size
      · rw [if_pos hc]; exact ⟨_, _, _, _, _, _, _, _, rfl⟩
      · rw [if_neg hc]; exact ⟨_, _, _, _, _, _, _, _, rfl⟩
    | true =>
      rw [if_pos rfl]
      refine ⟨_, rv, rfl, .nil _ _, ?_⟩
      rw [hrv]
      exact Tail.cut b off cap l _ (by omega)

theorem bytes_any (U : Utf valid Tabs) (w : World) (hT : Tabs w) (k : Nat) (t : Orch.Ty) (hok : okT (k + 1) t) (hsh : t.l.shape = 1) (pa : Option Addr) (pc : Nat) (bv : Value) (l : List UInt8) (hl : l.length ≤ 1000) (hbv : BsAt w bv l) :
    Calls Tryd.prog 60 #[tval t.l (.slice pa t.ps.length pc), bv] w fun e w' => takeRes w w' bv l e (Orch.take valid (k + 1) t l) ∧ Below w.heap.size w w' := by
  have hcnt : ∀ w', Below w.heap.size w w' → Calls Tryd.prog 61 #[bv, .int .i64 200] w' fun e w'' => countEnd bv l 200 e ∧ Below w'.heap.size w' w'' := fun w' hb => takeCount_any w' bv l hl (hbv.below hb (Nat.le_refl _)) 200 (by omega)
  rw [Orch.take]
  simp only [hsh]
  unfold countEnd at hcnt
  cases hc : Orch.count l 200 with
  | none =>
    rw [hc] at hcnt
    exact takeBytes_none w _ _ _ _ _ _ _ pa _ pc bv hcnt
  | some nr =>
    obtain ⟨n, rest⟩ := nr
    clear hcnt
    obtain ⟨b, off, cap, rfl, hcap, hlt, hb⟩ := hbv
    have hcs := Orch.count_some hc
    have hdr : rest = l.drop 4 := by
      unfold Orch.count at hc
      split at hc
      · cases hc
      · split at hc
        · cases hc
        · simp only [Option.some.injEq, Prod.mk.injEq] at hc; exact hc.2.symm
    have hrl : rest.length = l.length - 4 := by omega
    have hex : ∀ w', Below w.heap.size w w' → Calls Tryd.prog 61 #[.slice (some ⟨b, off, none⟩) l.length cap, .int .i64 200] w' fun e w'' => (∃ b' off' cap', e = .returned (.tuple #[.int .i64 n, .slice (some ⟨b', off', none⟩) (l.length - 4) cap', .bool true]) ∧ ((cap = 4 ∧ b' = b ∧ off' = off ∧ cap' = 0) ∨ (¬ cap = 4 ∧ b' = b ∧ off' = off + 4 ∧ cap' = cap - 4))) ∧ Below w'.heap.size w' w'' := fun w' hbw =>
      takeCount_exact w' b off cap l hl hcap (fun i hi => (hbw.cell (p := ⟨b, off + i, none⟩) hlt).trans (hb i hi)) 200 (by omega) n rest hc
    -- the slice that is left, in either case
    obtain ⟨off1, cap1, hfix, htail, hbr, hcr⟩ : ∃ off1 cap1, (∀ w', Below w.heap.size w w' → Calls Tryd.prog 61 #[.slice (some ⟨b, off, none⟩) l.length cap, .int .i64 200] w' fun e w'' => e = .returned (.tuple #[.int .i64 n, .slice (some ⟨b, off1, none⟩) rest.length cap1, .bool true]) ∧ Below w'.heap.size w' w'') ∧
        Tail (.slice (some ⟨b, off, none⟩) l.length cap) l (.slice (some ⟨b, off1, none⟩) rest.length cap1) rest ∧ Bytes w b off1 rest ∧ rest.length ≤ cap1 := by
      have hcut := Tail.cut b off cap l 4 (by omega)
      by_cases h4 : cap = 4
      · refine ⟨off, 0, fun w' hbw => (hex w' hbw).mono ?_, ?_, ?_, by omega⟩
        · rintro e w'' ⟨⟨b', off', cap', rfl, h | h⟩, hbb⟩
          · obtain ⟨_, rfl, rfl, rfl⟩ := h
            exact ⟨by rw [hrl], hbb⟩
          · exact absurd h4 h.1
        · rw [if_pos h4, ← hdr] at hcut; rw [hrl]; exact hcut
        · intro i hi; omega
      · refine ⟨off + 4, cap - 4, fun w' hbw => (hex w' hbw).mono ?_, ?_, ?_, by omega⟩
        · rintro e w'' ⟨⟨b', off', cap', rfl, h | h⟩, hbb⟩
          · exact absurd h.1 h4
          · obtain ⟨_, rfl, rfl, rfl⟩ := h
            exact ⟨by rw [hrl], hbb⟩
        · rw [if_neg h4, ← hdr] at hcut; rw [hrl]; exact hcut
        · rw [hdr]; exact hb.drop 4
    clear hex
    simp only
    by_cases hn : rest.length < n
    · rw [if_pos hn]
      exact takeBytes_short w _ _ _ _ _ _ _ pa _ pc _ b off1 rest.length n cap1 hn hcs.1 hfix
    · rw [if_neg hn]
      have htk : (rest.take n).length = n := by rw [List.length_take]; omega
      have hstr : strOfNums ((rest.take n).map fun c => (c.toNat : Int)) = (⟨(rest.take n).toArray⟩ : ByteArray) := by
        unfold strOfNums
        congr 2
        rw [List.map_map]
        conv => rhs; rw [← List.map_id (rest.take n)]
        apply List.map_congr_left
        intro c _
        simp
      refine (takeBytes_core (Tabs := Tabs) w t.l.sign.toNat t.l.shape t.l.size t.l.least t.l.most t.l.text t.l.fin.toNat pa t.ps.length pc _ b off1 rest.length n cap1 ⟨(rest.take n).toArray⟩ (Orch.fits valid t (Orch.bytesV (rest.take n))) (by omega) hcr hlt (by omega) hfix
        (fun w' h => fits_any U w' h t hok pa pc (Orch.bytesV (rest.take n)) none 0) (fun w' h => U.kept (U.size hT) h hT)
        (fun w' hbw => by
          have := run_convert_bytes_arg (P := Tryd.prog) w' 34 5 Tryd.underlying34 Tryd.underlying5 b off1 n cap1 ((rest.take n).map fun c => (c.toNat : Int)) (by rw [List.length_map, htk]) (fun i hi => by
            have h1 := (hbw.cell (p := ⟨b, off1 + i, none⟩) hlt).trans (hbr.take n i (by rw [htk]; exact hi))
            rw [h1, List.getD_eq_getElem?_getD, List.getElem?_map, List.getElem?_eq_getElem (by rw [htk]; exact hi)]
            rfl) 9 Tryd.underlying9
          rw [hstr] at this
          exact this)).mono ?_
      rintro e w' ⟨rv, rfl, hrv, hbb⟩
      refine ⟨?_, hbb⟩
      cases hf : Orch.fits valid t (Orch.bytesV (rest.take n)) with
      | false =>
        rw [if_neg (by simp), hrv]
        by_cases hc1 : cap1 = n
        · rw [if_pos hc1]; exact ⟨_, _, _, _, _, _, _, _, rfl⟩
        · rw [if_neg hc1]; exact ⟨_, _, _, _, _, _, _, _, rfl⟩
      | true =>
        rw [if_pos rfl]
        refine ⟨_, rv, rfl, .nil _ _, htail.trans ?_⟩
        rw [hrv]
        exact Tail.cut b off1 cap1 rest n (by omega)
end
end Go.Proofs.YtbnoghkijgmcgaaDoor
