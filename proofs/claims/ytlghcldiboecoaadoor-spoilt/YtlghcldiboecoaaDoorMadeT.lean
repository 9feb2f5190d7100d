/- The walk of made. -/
import Derived.Test.YtlghcldiboecoaaDoorMade
set_option linter.unusedVariables false
namespace Go.Proofs.YtlghcldiboecoaaDoor
open Go.RowKit


set_option maxRecDepth 8000 in
set_option maxHeartbeats 4000000 in
theorem made_any (r : Nat) (hr : r ≤ 8) (ih : ∀ q, r = q + 1 → MdSaid q) : MdSaid r := by
  intro w M N S n s x y hM hN hS hn hs hx hx' hy hy'
  have h5 : 1 ≤ 5 ^ r := Nat.one_le_pow _ _ (by omega)
  have h25 : 5 ^ (r + 2) = 25 * 5 ^ r := by rw [Nat.pow_add]; omega
  have h5' : (5 : Int) ^ r = ((5 ^ r : Nat) : Int) := by rw [Int.natCast_pow]; rfl
  rw [h5'] at hy
  have HIH := hide ih
  have hlt := ltOf hM
  have HNb : Hid (∀ B W, M < B → Keeps M B w W → Ints W M N) := fun B W hB h => hN.keeps h (by omega)
  have HSb : Hid (∀ B W, M < B → Keeps M B w W → Strs W M S) := fun B W hB h => hS.keeps h (by omega)
  have hsz : (w.alloc (.cells #[.int .i64 0, .string ⟨#[]⟩, .slice none 0 0] 31)).heap.size = w.heap.size + 1 := by simp
  have HA : Hid (Lf w (w.alloc (.cells #[.int .i64 0, .string ⟨#[]⟩, .slice none 0 0] 31)) M N S n s x y) := ⟨heap_alloc_new w _, (Below.heap_alloc _ _ _ hlt).trans hM, (Keeps.refl _ _ _).alloc (Nat.le_refl _) _⟩
  have HPOW := hide h25
  have HPOW' := hide h5'
  have hnn : n ≤ 900000000 := by omega
  have hss : s ≤ 900000000 := by omega
  have hyy : -100000000000 ≤ y := by omega
  have HH := hide (And.intro hn (And.intro hs hy))
  have HPRE : Hid (MdSaid r → True) := fun _ => trivial
  clear ih hM hN hS hsz h25 h5' hn hs hy h5 HPRE
  go_enter Tryd.func7, Tryd.ntmps7
  go_wp2_with fail
  refine (number_any _ M N S n s x y HA.out.m (HNb.out _ _ hlt HA.out.k) (by omega)).mono ?_
  rintro e w1 ⟨⟨z, n1, rfl, hz0, hz1, hn1, hM1⟩, hK1⟩
  have H1 := hide (HA.out.next hlt hM1 hK1)
  clear hM1 hK1 HA
  go_wp2_with fail
  refine (pick_any w1 z 4 hz0 hz1 (by omega) (by omega)).mono ?_
  rintro e w' ⟨⟨k, hk, rfl⟩, rfl⟩
  have c4 := cellOf (j := 4) H1.out.m rfl
  have c5 := cellOf (j := 5) H1.out.m rfl
  have hk4 : (r = 0 ∨ r ≠ 0 ∧ x < 12 ∨ r ≠ 0 ∧ ¬ x < 12 ∧ y < 100 ∨ r ≠ 0 ∧ ¬ x < 12 ∧ ¬ y < 100 ∧ 1 < k) ∨ (r ≠ 0 ∧ ¬ x < 12 ∧ ¬ y < 100 ∧ (k = 0 ∨ k = 1)) := by omega
  rcases hk4 with hk4 | ⟨hr0, hx12, hy100, hk01⟩
  · have HLF : Hid (∀ W, Lf w W M N S n1 s x y → Calls Tryd.prog 17 #[.pointer (some ⟨M, 0, none⟩)] W fun e w' => (∃ (c : UInt8) (v : Orch.V) (L n' s' : Nat), e = .returned (.tuple #[.string ⟨#[c]⟩, vval v (.slice none 0 0)]) ∧ LeafIs c v L ∧ (y < 50 → L = 1) ∧ n' ≤ n1 + 2 ∧ s' ≤ s + 1 ∧ MkAt w' M N S n' s' (x - 1) (y - L)) ∧ Keeps M W.heap.size W w') := fun W h =>
      leaf_any W M N S n1 s x y h.m (HNb.out _ _ hlt h.k) (HSb.out _ _ hlt h.k) (by omega) (by omega) (by omega) (by omega) (by omega) (by omega)
    rcases hk4 with rfl | ⟨hr0, hx12⟩ | ⟨hr0, hx12, hy100⟩ | ⟨hr0, hx12, hy100, hk1⟩
    all_goals
      first
        | (have hd : (8 : Int) ≤ 8 - (0 : Nat) := by omega)
        | (have hd : ¬ (8 : Int) ≤ 8 - (r : Int) := by omega)
      go_wp2_with fail
      refine (HLF.out _ H1.out).mono ?_
      rintro e w3 ⟨⟨c, v, L, n3, s3, rfl, hleaf, hy50, hn3, hs3, hM3⟩, hK3⟩
      have H3 := hide (H1.out.next hlt hM3 hK3)
      have HLEAF := hide hleaf
      have HY := hide hy50
      clear hM3 hK3 hleaf hy50 c4 c5 H1
      obtain ⟨vn, vs, vl⟩ := v
      simp only [vval, Orch.V.n, Orch.V.s]
      go_wp2_with (refine wpList_store_row rfl 31 _ _ rfl w.heap.size #[.int .i64 vn, .string vs, .slice none 0 0] rfl rfl 31 _ H3.out.r Tryd.size31 rfl (one_v _ _ _ _ _) ?_)
      refine bp_gen (fun X => X.heap[w.heap.size]? = some (.cells #[.int .i64 vn, .string vs, .slice none 0 0] 31) ∧ MkAt X M N S n3 s3 (x - 1) (y - L) ∧ Keeps M w.heap.size w X) (H3.out.store hlt _) ?_
      rintro X ⟨hX, hXm, hXk⟩
      have c0 := cellOf (j := 0) hX rfl
      have c1 := cellOf (j := 1) hX rfl
      have c2 := cellOf (j := 2) hX rfl
      exact bodyPost_ret (v := .tuple #[.string ⟨#[c]⟩, vv vn vs (.slice none 0 0)]) (by simp [results, Tryd.results7, go_sem, c0, c1, c2]) rfl ⟨md_leaf HLEAF.out HY.out (by omega) (by omega) hXm, hXk⟩
  · obtain ⟨q, rfl⟩ : ∃ q, r = q + 1 := ⟨r - 1, by omega⟩
    have hih := HIH.out q rfl
    have hd : ¬ (8 : Int) ≤ 8 - ((q + 1 : Nat) : Int) := by omega
    have f4 := frozenOf (j := 4) H1.out.m
    have f5 := frozenOf (j := 5) H1.out.m
    rcases hk01 with rfl | rfl
    · have H2 : Hid (Lf w ((w'.setCell ⟨M, 4, none⟩ (.int .i64 (x - 2))).setCell ⟨M, 5, none⟩ (.int .i64 (y - 4))) M N S n1 s (x - 2) (y - 4)) :=
        Lf.bytes ⟨(heap_setCell_other w' ⟨M, 4, none⟩ _ _ (Nat.ne_of_gt hlt)).trans H1.out.r, H1.out.m.set 4 _, H1.out.k.trans (keeps_set _ _ _ _ _)⟩ hlt _
      go_wp2_with fail
      clear H1 c4 c5 f4 f5
      generalize (w'.setCell ⟨M, 4, none⟩ (.int .i64 (x - 2))).setCell ⟨M, 5, none⟩ (.int .i64 (y - 4)) = w2 at *
      have K25 : 25 ≤ 5 ^ (q + 2) := by rw [Nat.pow_add]; have : 1 ≤ 5 ^ q := Nat.one_le_pow _ _ (by omega); omega
      have K5 : 5 ^ (q + 1 + 2) = 5 * 5 ^ (q + 2) := by rw [show q + 1 + 2 = (q + 2) + 1 by omega, Nat.pow_succ]; omega
      have hPz : (0 : Int) < 5 ^ q := Int.pow_pos (by omega)
      have hHH := HH.out
      have e5 : ((5 ^ (q + 1) : Nat) : Int) = 5 * (5 : Int) ^ q := by rw [Nat.pow_succ, Int.natCast_mul, Int.natCast_pow, Int.mul_comm]; rfl
      rw [e5] at hHH
      have HCALL : Hid (Calls Tryd.prog 7 #[.pointer (some ⟨M, 0, none⟩), .int .i64 (8 - ((q : Int) + 1) + 1)] w2 fun e w' => MdRes q w2 w' M N S n1 s (x - 2) (y - 4) e ∧ Keeps M w2.heap.size w2 w') := by
        show Calls _ _ _ _ _
        rw [show (8 - ((q : Int) + 1) + 1) = 8 - (q : Int) by omega]
        exact hih w2 M N S n1 s (x - 2) (y - 4) H2.out.m (HNb.out _ _ hlt H2.out.k) (HSb.out _ _ hlt H2.out.k) (by omega) (by omega) (by omega) (by omega) (by omega) (by omega)
      clear K25 K5 hPz hHH e5
      refine HCALL.out.mono ?_
      rintro e w6 ⟨⟨σ, T, v2, lv2, pre2, n3, s3, x3, y3, rfl, hvs, hsm, hrd, hly, hlf, hp1, hp2, hx1, hx2, hy1, hy2, hn3, hs3, hM6⟩, hK6⟩
      obtain ⟨va, vc, rfl⟩ := hvs.shape
      have hσ60 : σ.length ≤ 60 := by omega
      have hbA : (⟨σ.toArray⟩ : ByteArray).size ≤ 100 := by show σ.toArray.size ≤ 100; simp; omega
      have hsA : ((⟨σ.toArray⟩ : ByteArray).size : Int) = σ.length := by show (σ.toArray.size : Int) = _; simp
      have HSTR : Hid ((⟨#[91]⟩ : ByteArray) ++ ⟨σ.toArray⟩ ++ ⟨#[93]⟩ = ⟨(91 :: (σ ++ [93])).toArray⟩) := by
        show _ = _
        apply ByteArray.ext
        simp [ByteArray.data_append]
      have HA1 : Hid (∀ c, σ = [c] → (⟨σ.toArray⟩ : ByteArray) = ⟨#[c]⟩) := fun c h => by rw [h]
      generalize (⟨σ.toArray⟩ : ByteArray) = A at *
      have hw2 := ltOf H2.out.r
      have H6 := hide (H2.out.next hlt hM6 hK6)
      have hb8 := below2 w6 (.cells #[.int .i64 v2.n, .string v2.s, .slice va v2.l.length vc] 31) (.cells #[] 31)
      have hs6 := hK6.size
      have H8 := hide (H6.out.next hlt ((hb8.block M (by omega)).trans hM6) (Keeps.of hb8))
      have HO8 := hide (own_empty (w6.alloc (.cells #[.int .i64 v2.n, .string v2.s, .slice va v2.l.length vc] 31)) (w.heap.size + 1) (by simp; omega))
      have HC8 := hide (new2 w6 (.cells #[.int .i64 v2.n, .string v2.s, .slice va v2.l.length vc] 31) (.cells #[] 31)).1
      have HV8 : Hid (VsAt ((w6.alloc (.cells #[.int .i64 v2.n, .string v2.s, .slice va v2.l.length vc] 31)).alloc (.cells #[] 31)) (fun b => w.heap.size + 1 ≤ b ∧ b < w6.heap.size) v2.l (.slice va v2.l.length vc)) := hvs.congr (fun b hb => ⟨by omega, hb.2⟩) (fun b hb => hb8.block b hb.2)
      have HW6 : Hid (w.heap.size + 1 ≤ w6.heap.size) := by show _ ≤ _; omega
      have HFACT := hide (And.intro hp1 (And.intro hp2 (And.intro hx1 (And.intro hx2 (And.intro hy1 (And.intro hy2 (And.intro hn3 hs3)))))))
      have HSM := hide hsm
      have HRD := hide hrd
      have HLY := hide hly
      have HLF := hide hlf
      clear hvs hsm hrd hly hlf hp1 hp2 hx1 hx2 hy1 hy2 hM6 hK6 hb8 H6 H2
      go_wp2_with fail
      have hs8 : ((w6.alloc (.cells #[.int .i64 v2.n, .string v2.s, .slice va v2.l.length vc] 31)).alloc (.cells #[] 31)).heap.size = w6.heap.size + 1 + 1 := by simp
      have hso : (w6.alloc (.cells #[.int .i64 v2.n, .string v2.s, .slice va v2.l.length vc] 31)).heap.size = w6.heap.size + 1 := by simp
      rw [hso] at HO8
      generalize (w6.alloc (.cells #[.int .i64 v2.n, .string v2.s, .slice va v2.l.length vc] 31)).alloc (.cells #[] 31) = w8 at *
      refine (number_any _ M N S n3 s3 _ _ H8.out.m (HNb.out _ _ hlt H8.out.k) (by have := HH.out; have K25 : 5 ^ (q + 1 + 2) = 5 * 5 ^ (q + 2) := (by rw [show q + 1 + 2 = (q + 2) + 1 by omega, Nat.pow_succ]; omega); omega)).mono ?_
      rintro e w9 ⟨⟨z2, n4, rfl, hz2, hz2', hn4, hM9⟩, hK9⟩
      have H9 := hide (H8.out.next hlt hM9 hK9)
      have HO9 := hide (ownsRow_keeps HO8.out (by omega) hK9)
      have HC9 : Hid (w9.heap[w6.heap.size]? = some (.cells #[.int .i64 v2.n, .string v2.s, .slice va v2.l.length vc] 31)) := (hK9.block _ (by omega) (by omega)).trans HC8.out
      have HV9 : Hid (VsAt w9 (fun b => w.heap.size + 1 ≤ b ∧ b < w6.heap.size) v2.l (.slice va v2.l.length vc)) := HV8.out.congr (fun _ h => h) (fun b hb => hK9.block b (by omega) (by omega))
      have HS9 : Hid (w6.heap.size + 1 + 1 ≤ w9.heap.size) := by show _ ≤ _; have := hK9.size; omega
      clear hM9 hK9 H8 HO8 HC8 HV8 hs8 hso
      go_wp2_with fail
      refine (pick_any w9 z2 4 hz2 hz2' (by omega) (by omega)).mono ?_
      rintro e w9' ⟨⟨a4, ha4, rfl⟩, rfl⟩
      by_cases h1 : σ.length = 1
      · obtain ⟨c, hσc, hTc, hleaf⟩ := HLF.out h1
        have hA1 := HA1.out c hσc
        have HAG : Hid (∀ (W : World) (y : Int) (v : Orch.V) (xa : Option Addr) (xc : Nat), MkAt W M N S n4 s3 x3 y → LeafIs c v pre2.length → -1000000000000 ≤ y → y ≤ 700 → Calls Tryd.prog 18 #[.pointer (some ⟨M, 0, none⟩), .string A, vv v.n v.s (.slice xa 0 xc)] W fun e w' => ((∃ v' va' vc', e = .returned (vv (Orch.V.n v') (Orch.V.s v') (.slice va' 0 vc')) ∧ LeafIs c v' pre2.length) ∧ MkAt w' M N S n4 s3 x3 (y - again1 c)) ∧ Keeps M W.heap.size W w') := fun W y v xa xc hm hl h1 h2 => by
          rw [hA1]
          exact again_leaf W M N S n4 s3 x3 y hm c v _ hl xa xc h1 h2
        have hsl : (A.size : Int) = 1 := by omega
        have hl0 := hleaf.nil.1
        obtain ⟨hD1, hD2⟩ := again_price hleaf
        have HLV : Hid (∀ v, LeafIs c v pre2.length → ∃ p, p.length = pre2.length ∧ Orch.Lays validB (q + 1) T v p) := fun v hv => by
          obtain ⟨p, hp, hl⟩ := (leaf_good hv q).2
          exact ⟨p, hp, by rw [hTc]; exact hl⟩
        have HLSM : Hid (∀ v, LeafIs c v pre2.length → Small (q + 1) v) := fun v hv => ⟨by rw [hv.nil.1]; simp, fun e he => by rw [hv.nil.1] at he; cases he⟩
        have HC9' : Hid (w9'.heap[w6.heap.size]? = some (.cells #[.int .i64 v2.n, .string v2.s, .slice va 0 vc] 31)) := by
          have := HC9.out
          rw [hl0] at this
          exact this
        have HLF2 := hide hleaf
        have hy3 : -200000000000 ≤ y3 ∧ y3 ≤ 700 := by
          obtain ⟨_, _, _, _, hy1, hy2, _⟩ := HFACT.out
          have hHH := HH.out
          have hPz : (0 : Int) < 5 ^ q := Int.pow_pos (by omega)
          have e5 : ((5 ^ (q + 1) : Nat) : Int) = 5 * (5 : Int) ^ q := by rw [Nat.pow_succ, Int.natCast_mul, Int.natCast_pow, Int.mul_comm]; rfl
          rw [e5] at hHH
          omega
        have hD0 : 0 ≤ again1 c := by omega
        clear hleaf hl0 HC9 HV9 hA1 HA1
        generalize again1 c = D at *
        go_wp2_with fail
        go_loopw [9, 10] (fun l9 c10 wr => ∃ (j : Nat) (ps : List (Orch.V × Value)) (lv : Value) (pre : List UInt8) (v : Orch.V) (xa : Option Addr) (xc : Nat) (yc : Int),
          c10 = .int .i64 j ∧ ps.length + j = a4 ∧ l9 = lv ∧ Hid (wr.ownsRow (w.heap.size + 1) 31 3 lv ps.length (ps.flatMap vcell)) ∧ Hid (∀ p, p ∈ ps → VsAt wr (Beside (w.heap.size + 1) lv wr) p.1.l p.2 ∧ LeafIs c p.1 pre2.length) ∧ Hid (∀ g, lv.ownBlock = some g → w6.heap.size < g) ∧
          Hid (w6.heap.size + 1 + 1 ≤ wr.heap.size) ∧ Hid (wr.heap[w6.heap.size]? = some (.cells #[.int .i64 v.n, .string v.s, .slice xa 0 xc] 31)) ∧ Hid (LeafIs c v pre2.length) ∧
          Hid (Orch.Vec validB (q + 1) T (ps.map Prod.fst) pre ∧ pre.length = ps.length * pre2.length) ∧ Hid (Lf w wr M N S n4 s3 x3 yc) ∧ Hid (yc = y3 - D * ps.length ∧ y3 - 50 * ps.length ≤ yc ∧ yc ≤ y3) ∧ Hid (0 < ps.length → 250 ≤ y3 - D * (ps.length : Int)))
          (fun _ c _ => (intOf c).toNat)
        case atStart => exact ⟨a4, [], _, [], v2, va, vc, y3, rfl, by simp, rfl, HO9, fun p hp => by simp at hp, fun g hg => by simp [Value.ownBlock] at hg; omega, HS9, HC9', HLF2, ⟨Orch.Vec.nil _ _, by simp⟩, H9, ⟨by simp, by simp, by omega⟩, fun h => by simp at h⟩
        case round =>
          obtain ⟨j, ps, lv, pre, v, xa, xc, yc, rfl, hj, rfl, HO, HPS, HOB, HSZ, HC, HLFV, HVEC, HL, HYC, HBD⟩ := hrel
          have d0 := cellOf (j := 0) HC.out rfl
          have d1 := cellOf (j := 1) HC.out rfl
          have d2 := cellOf (j := 2) HC.out rfl
          by_cases hj0 : 0 < j
          · obtain ⟨j', rfl⟩ : ∃ j', j = j' + 1 := ⟨j - 1, by omega⟩
            have hjz : (0 : Int) < (j' + 1 : Nat) := by omega
            have hps3 : ps.length ≤ 2 := by omega
            have hyc : -1000000000000 ≤ yc - 400 ∧ yc ≤ 700 := by have := HYC.out; omega
            obtain ⟨qa, qc, hlv⟩ : ∃ a c, u9 = .slice a ps.length c := by
              rcases HO.out.2 with ⟨e, h⟩ | ⟨g, cap, cur, e, _⟩
              · exact ⟨none, 0, by rw [e, h]⟩
              · exact ⟨_, _, e⟩
            subst hlv
            obtain ⟨i0, hi0, hz0, hz1, hz2⟩ := info_parts Tryd.info31
            go_wp2_with (at_builtin; refine wpList_append_lies _ rfl _ _ 29 rfl (w.heap.size + 1) 31 i0 (vv 0 ⟨#[]⟩ (.slice none 0 0)) 3 48 Tryd.underlying29 hi0 hz0 hz1 hz2 rfl (by decide) _ _ _ rfl (HO.out.alloc _) ⟨wr.heap.size, 0, none⟩ 1 1 (vcell (v, .slice xa 0 xc)) rfl rfl ?hn ?h1 (by decide) ?c3 ?c4 ?c5 (wr.heap.size + 1) ?hH ?_)
            case hn => exact World.news_of_block (heap_alloc_new wr _)
            case h1 => intro u hu; simp only [vcell, List.mem_cons, List.mem_nil_iff, or_false] at hu; rcases hu with rfl | rfl | rfl <;> rfl
            case c3 => unfold maxLen; omega
            case c4 => omega
            case c5 => have := HSZ.out; have := HW6.out; simp; omega
            case hH => simp
            intro g cap w7 hown7 hgr hat _
            have hb8 := below1 wr (.cells #[.int .i64 v.n, .string v.s, .slice xa 0 xc] 31)
            have hs8 : (wr.alloc (.cells #[.int .i64 v.n, .string v.s, .slice xa 0 xc] 31)).heap.size = wr.heap.size + 1 := by simp
            have hszr := HSZ.out
            have hw6 := HW6.out
            have hvl := HLFV.out.nil.1
            obtain ⟨r1, r2, r3, r4⟩ := grow_K (M := M) (t := v) (x := .slice xa 0 xc) (S := fun b => False) (by omega) (by omega) HO.out (fun p hp => (HPS.out p hp).1) (Keeps.of hb8) (by rw [hvl]; exact .nil _ _) (fun b hb => hb.elim) hown7 hgr (by rw [hs8]; exact hat)
            have hM7 : MkAt w7 M N S n4 s3 x3 yc := r4.trans ((hb8.block M (by omega)).trans HL.out.m)
            have c5' := cellOf (j := 5) hM7 rfl
            have f5' := frozenOf (j := 5) hM7
            have HL7 : Hid (Lf w w7 M N S n4 s3 x3 yc) := ⟨(r3.block _ (by omega) (by omega)).trans HL.out.r, hM7, HL.out.k.trans (r3.mono (by omega))⟩
            have l1 : (ps ++ [(v, Value.slice xa 0 xc)]).length = ps.length + 1 := by simp
            have hC7 : w7.heap[w6.heap.size]? = some (.cells #[.int .i64 v.n, .string v.s, .slice xa 0 xc] 31) := (hgr.block _ (by rw [hs8]; omega) (fun e => by have := HOB.out _ e.symm; omega)).trans ((hb8.block _ (by omega)).trans HC.out)
            have e0 := cellOf (j := 0) hC7 rfl
            have e1 := cellOf (j := 1) hC7 rfl
            have e2 := cellOf (j := 2) hC7 rfl
            have hsz7 : w6.heap.size + 1 + 1 ≤ w7.heap.size := by have := hgr.size; omega
            have HC7 := hide hC7
            have HSZ7 := hide hsz7
            have R1 := hide r1
            have R2 := hide r2
            have HL1 := hide l1
            have HOB8 : Hid (∀ g', (.slice (some ⟨g, 0, none⟩) (ps.length + 1) cap : Value).ownBlock = some g' → w6.heap.size < g') := fun g' e => by
              have : g = g' := by simpa [Value.ownBlock] using e
              subst this
              rcases hat with h | h
              · exact HOB.out _ h
              · omega
            have hne : w6.heap.size ≠ M := by omega
            clear r1 r2 r3 r4 hM7 hb8 hs8 hszr hw6 hown7 hgr hat hi0 hz0 hz1 hz2 l1 d0 d1 d2 hC7 hsz7 hvl
            go_wp2_with fail
            have hs2 : ((w7.setCell ⟨M, 5, none⟩ (.int .i64 (yc - 200))).setCell ⟨M, 5, none⟩ (.int .i64 yc)).heap.size = w7.heap.size := by rw [size_set, size_set]
            have hl8 : Lf w ((w7.setCell ⟨M, 5, none⟩ (.int .i64 (yc - 200))).setCell ⟨M, 5, none⟩ (.int .i64 yc)) M N S n4 s3 x3 yc := (HL7.out.bytes hlt (yc - 200)).bytes hlt yc
            refine (HAG.out _ yc v xa xc hl8.m HLFV.out (by omega) (by omega)).mono ?_
            rintro e w8 ⟨⟨⟨v', xa', xc', rfl, hl'⟩, hm8⟩, hk8⟩
            have hk7 : Keeps M w7.heap.size w7 w8 := ((keeps_set M w7.heap.size 5 w7 (.int .i64 (yc - 200))).trans (keeps_set M w7.heap.size 5 _ (.int .i64 yc))).trans (hk8.mono (by rw [hs2]; exact Nat.le_refl _))
            have hw6 := HW6.out
            have hsz7 := HSZ7.out
            have hsz8 := hk7.size
            have hC8 : w8.heap[w6.heap.size]? = some (.cells #[.int .i64 v.n, .string v.s, .slice xa 0 xc] 31) := (hk7.block _ (by omega) hne).trans HC7.out
            have hL8 : Lf w w8 M N S n4 s3 x3 (yc - D) := HL7.out.next hlt hm8 hk7
            have ho8 := ownsRow_keeps R1.out (by omega) hk7
            have hC9 := setRow_heap w8 w6.heap.size _ #[.int .i64 (Orch.V.n v'), .string (Orch.V.s v'), .slice xa' 0 xc'] _ _ hC8
            have hk9 : Keeps w6.heap.size w8.heap.size w8 (w8.setRow w6.heap.size #[.int .i64 (Orch.V.n v'), .string (Orch.V.s v'), .slice xa' 0 xc']) := ⟨rfl, rfl, rfl, by simp, fun k hk hn => setRow_other _ _ _ _ hn⟩
            have hL9 : Lf w (w8.setRow w6.heap.size #[.int .i64 (Orch.V.n v'), .string (Orch.V.s v'), .slice xa' 0 xc']) M N S n4 s3 x3 (yc - D) := ⟨(setRow_other _ _ _ _ (by omega)).trans hL8.r, (setRow_other _ _ _ _ hne.symm).trans hL8.m, hL8.k.trans ⟨rfl, rfl, rfl, by simp, fun k hk hn => setRow_other _ _ _ _ (by omega)⟩⟩
            have c5'' := cellOf (j := 5) hL9.m rfl
            have ho9 := ownsRow_row ho8 (fun e => by have := HOB8.out _ e; omega) hk9
            have hps9 : ∀ p, p ∈ ps ++ [(v, Value.slice xa 0 xc)] → VsAt (w8.setRow w6.heap.size #[.int .i64 (Orch.V.n v'), .string (Orch.V.s v'), .slice xa' 0 xc']) (Beside (w.heap.size + 1) (.slice (some ⟨g, 0, none⟩) (ps.length + 1) cap) (w8.setRow w6.heap.size #[.int .i64 (Orch.V.n v'), .string (Orch.V.s v'), .slice xa' 0 xc'])) p.1.l p.2 ∧ LeafIs c p.1 pre2.length := fun p hp => by
              have hlf : LeafIs c p.1 pre2.length := by
                rcases List.mem_append.1 hp with h | h
                · exact (HPS.out p h).2
                · obtain rfl : p = (v, Value.slice xa 0 xc) := by simpa using h
                  exact HLFV.out
              have hv := R2.out p hp
              have h0 := hlf.nil.1
              rw [h0] at hv ⊢
              obtain ⟨a, c', e⟩ := hv.shape
              rw [e]
              exact ⟨.nil _ _, hlf⟩
            obtain ⟨pv, hpv, hlay⟩ := HLV.out v HLFV.out
            have HVE : Hid (Orch.Vec validB (q + 1) T ((ps ++ [(v, Value.slice xa 0 xc)]).map Prod.fst) (pre ++ pv) ∧ (pre ++ pv).length = (ps.length + 1) * pre2.length) := ⟨by rw [List.map_append]; exact HVEC.out.1.snoc hlay, by rw [List.length_append, HVEC.out.2, hpv, Nat.succ_mul]⟩
            have hyd : yc - D = y3 - D * ((ps.length + 1 : Nat) : Int) := by rw [HYC.out.1, Int.natCast_add, Int.mul_add]; simp; omega
            have HC8 := hide hC8
            have HC9 := hide hC9
            have HL9 := hide hL9
            have HO9 := hide ho9
            have HPS9 := hide hps9
            have HYD := hide hyd
            have HLV' := hide hl'
            have HSZ9 : Hid (w6.heap.size + 1 + 1 ≤ (w8.setRow w6.heap.size #[.int .i64 (Orch.V.n v'), .string (Orch.V.s v'), .slice xa' 0 xc']).heap.size) := by show _ ≤ _; have := hk9.size; omega
            have HY9 : Hid (y3 - 50 * ((ps.length : Int) + 1) ≤ yc - D ∧ yc - D ≤ y3) := by show _ ∧ _; have := HYC.out; omega
            clear hs2 hl8 hm8 hk8 hk7 hw6 hsz7 hsz8 hC8 hL8 ho8 hC9 hk9 hL9 ho9 hps9 hlay hpv hyd hl' c5' f5' e0 e1 e2
            by_cases hlow : yc - D < 250
            · go_wp2_with (first
                | (refine wpList_store_row rfl 31 _ _ rfl w6.heap.size #[.int .i64 (Orch.V.n v'), .string (Orch.V.s v'), .slice xa' 0 xc'] rfl rfl 31 _ HC8.out Tryd.size31 rfl (one_v _ _ _ _ _) ?_)
                | (refine wpList_store_row rfl 31 _ _ rfl w.heap.size #[.int .i64 0, .string ⟨#[]⟩, .slice (some ⟨g, 0, none⟩) (ps.length + 1) cap] rfl rfl 31 _ HL9.out.r Tryd.size31 rfl (one_v _ _ _ _ _) ?_))
              have hV := done_V (B := w.heap.size + 1) (HL1.out ▸ HO9.out) (fun p hp => (HPS9.out p hp).1) (Nat.le_refl _)
              obtain ⟨t1, t2, t3⟩ := HL9.out.store hlt #[.int .i64 0, .string ⟨#[]⟩, .slice (some ⟨g, 0, none⟩) (ps.length + 1) cap]
              refine bp_gen (fun X => X.heap[w.heap.size]? = some (.cells #[.int .i64 0, .string ⟨#[]⟩, .slice (some ⟨g, 0, none⟩) (ps.length + 1) cap] 31) ∧ MkAt X M N S n4 s3 x3 (yc - D) ∧ Keeps M w.heap.size w X ∧ VsAt X (fun b => w.heap.size ≤ b ∧ b < X.heap.size) ((ps ++ [(v, Value.slice xa 0 xc)]).map Prod.fst) (.slice (some ⟨g, 0, none⟩) (ps.length + 1) cap))
                ⟨t1, t2, t3, hV.congr (fun b hb => ⟨by omega, by simpa using hb.2⟩) (fun b hb => setRow_other _ _ _ _ (by omega))⟩ ?_
              rintro X ⟨hX, hXm, hXk, hXv⟩
              have c0 := cellOf (j := 0) hX rfl
              have c1 := cellOf (j := 1) hX rfl
              have c2 := cellOf (j := 2) hX rfl
              obtain ⟨hp1, hp2, hx1, hx2, hy1, hy2, hn3, hs3⟩ := HFACT.out
              have hBD := HBD.out
              refine bodyPost_ret (v := .tuple #[.string (⟨#[91]⟩ ++ A ++ ⟨#[93]⟩), vv 0 ⟨#[]⟩ (.slice (some ⟨g, 0, none⟩) (ps.length + 1) cap)]) (by simp [results, Tryd.results7, go_sem, c0, c1, c2]) rfl ⟨md_vec (k := ps.length + 1) (L := pre2.length) (y3 := y3) (T := T) (pre := pre ++ pv) (vs := (ps ++ [(v, Value.slice xa 0 xc)]).map Prod.fst) (by simp) HSTR.out (by omega) (by omega) HRD.out HVE.out.1 HVE.out.2 (by omega) (fun e he => by obtain ⟨p, hp, rfl⟩ := List.mem_map.1 he; exact HLSM.out _ (HPS9.out p hp).2) (by rw [HYD.out]; exact vec_sum1 (k := ps.length + 1) (by omega) (by omega) hy' h1 hD1 hp2 hy1 (fun h2 => by have := hBD (by omega); rw [show (((ps.length + 1 : Nat) : Int) - 1) = (ps.length : Int) by omega]; exact this)) hx1 hx2 hy1 hy2 (by have := HY9.out; omega) (by have := HY9.out; omega) (by omega) (by omega) hXv hXm, hXk⟩
            · go_wp2_with (refine wpList_store_row rfl 31 _ _ rfl w6.heap.size #[.int .i64 (Orch.V.n v'), .string (Orch.V.s v'), .slice xa' 0 xc'] rfl rfl 31 _ HC8.out Tryd.size31 rfl (one_v _ _ _ _ _) ?_)
              go_roundw
              case rel => exact ⟨j', ps ++ [(v, .slice xa 0 xc)], .slice (some ⟨g, 0, none⟩) (ps.length + 1) cap, pre ++ pv, v', xa', xc', yc - D, rfl, by rw [HL1.out]; omega, rfl, by rw [HL1.out]; exact HL1.out ▸ HO9, HPS9, HOB8, HSZ9, HC9, HLV', ⟨HVE.out.1, by rw [HL1.out]; exact HVE.out.2⟩, HL9, ⟨by rw [HL1.out]; exact HYD.out, by rw [HL1.out, Int.natCast_add]; exact HY9.out.1, HY9.out.2⟩, fun _ => by rw [HL1.out, ← HYD.out]; omega⟩
              case measure => simp [intOf]
          · obtain rfl : j = 0 := by omega
            have hps3 : ps.length ≤ 3 := by omega
            obtain ⟨qa, qc, hlv⟩ : ∃ a c, u9 = .slice a ps.length c := by
              rcases HO.out.2 with ⟨e, h⟩ | ⟨g, cap, cur, e, _⟩
              · exact ⟨none, 0, by rw [e, h]⟩
              · exact ⟨_, _, e⟩
            subst hlv
            have HVE := HVEC
            go_wp2_with (refine wpList_store_row rfl 31 _ _ rfl w.heap.size #[.int .i64 0, .string ⟨#[]⟩, .slice qa ps.length qc] rfl rfl 31 _ HL.out.r Tryd.size31 rfl (one_v _ _ _ _ _) ?_)
            have hV := done_V (B := w.heap.size + 1) HO.out (fun p hp => (HPS.out p hp).1) (Nat.le_refl _)
            obtain ⟨t1, t2, t3⟩ := HL.out.store hlt #[.int .i64 0, .string ⟨#[]⟩, .slice qa ps.length qc]
            refine bp_gen (fun X => X.heap[w.heap.size]? = some (.cells #[.int .i64 0, .string ⟨#[]⟩, .slice qa ps.length qc] 31) ∧ MkAt X M N S n4 s3 x3 (yc) ∧ Keeps M w.heap.size w X ∧ VsAt X (fun b => w.heap.size ≤ b ∧ b < X.heap.size) ((ps).map Prod.fst) (.slice qa ps.length qc))
              ⟨t1, t2, t3, hV.congr (fun b hb => ⟨by omega, by simpa using hb.2⟩) (fun b hb => setRow_other _ _ _ _ (by omega))⟩ ?_
            rintro X ⟨hX, hXm, hXk, hXv⟩
            have c0 := cellOf (j := 0) hX rfl
            have c1 := cellOf (j := 1) hX rfl
            have c2 := cellOf (j := 2) hX rfl
            obtain ⟨hp1, hp2, hx1, hx2, hy1, hy2, hn3, hs3⟩ := HFACT.out
            have hBD := HBD.out
            refine bodyPost_ret (v := .tuple #[.string (⟨#[91]⟩ ++ A ++ ⟨#[93]⟩), vv 0 ⟨#[]⟩ (.slice qa ps.length qc)]) (by simp [results, Tryd.results7, go_sem, c0, c1, c2]) rfl ⟨md_vec (k := ps.length) (L := pre2.length) (y3 := y3) (T := T) (pre := pre) (vs := (ps).map Prod.fst) (by simp) HSTR.out (by omega) (by omega) HRD.out HVE.out.1 HVE.out.2 (by omega) (fun e he => by obtain ⟨p, hp, rfl⟩ := List.mem_map.1 he; exact HLSM.out _ (HPS.out p hp).2) (vec_end1 hps3 (by omega) hy' h1 hD0 hD1 hp2 hy1 HYC.out.1 HBD.out) hx1 hx2 hy1 hy2 (by have := HYC.out; omega) (by have := HYC.out; omega) (by omega) (by omega) hXv hXm, hXk⟩
      · go_wp2_with fail
        go_loopw [9, 10] (fun l9 c10 wr => ∃ (j : Nat) (ps : List (Orch.V × Value)) (lv : Value) (pre : List UInt8),
          c10 = .int .i64 j ∧ ps.length + j = a4 ∧ l9 = lv ∧ Hid (wr.ownsRow (w.heap.size + 1) 31 3 lv ps.length (ps.flatMap vcell)) ∧ Hid (∀ p, p ∈ ps → VsAt wr (Beside (w.heap.size + 1) lv wr) p.1.l p.2 ∧ p.1 = v2) ∧ Hid (∀ g, lv.ownBlock = some g → w6.heap.size < g) ∧
          Hid (w6.heap.size + 1 + 1 ≤ wr.heap.size) ∧ Hid (wr.heap[w6.heap.size]? = some (.cells #[.int .i64 v2.n, .string v2.s, .slice va v2.l.length vc] 31)) ∧ Hid (VsAt wr (fun b => w.heap.size + 1 ≤ b ∧ b < w6.heap.size) v2.l (.slice va v2.l.length vc)) ∧
          Hid (Orch.Vec validB (q + 1) T (ps.map Prod.fst) pre ∧ pre.length = ps.length * pre2.length) ∧ Hid (Lf w wr M N S n4 s3 x3 (y3 - 200 * ps.length)) ∧ Hid (0 < ps.length → 250 ≤ y3 - 200 * (ps.length : Int)))
          (fun _ c _ => (intOf c).toNat)
        case atStart => exact ⟨a4, [], _, [], rfl, by simp, rfl, HO9, fun p hp => by simp at hp, fun g hg => by simp [Value.ownBlock] at hg; omega, HS9, HC9, HV9, ⟨Orch.Vec.nil _ _, by simp⟩, by simpa using H9, fun h => by simp at h⟩
        case round =>
          obtain ⟨j, ps, lv, pre, rfl, hj, rfl, HO, HPS, HOB, HSZ, HC, HV, HVEC, HL, HBD⟩ := hrel
          have d0 := cellOf (j := 0) HC.out rfl
          have d1 := cellOf (j := 1) HC.out rfl
          have d2 := cellOf (j := 2) HC.out rfl
          by_cases hj0 : 0 < j
          · obtain ⟨j', rfl⟩ : ∃ j', j = j' + 1 := ⟨j - 1, by omega⟩
            have hjz : (0 : Int) < (j' + 1 : Nat) := by omega
            have hps3 : ps.length ≤ 2 := by omega
            obtain ⟨qa, qc, hlv⟩ : ∃ a c, u9 = .slice a ps.length c := by
              rcases HO.out.2 with ⟨e, h⟩ | ⟨g, cap, cur, e, _⟩
              · exact ⟨none, 0, by rw [e, h]⟩
              · exact ⟨_, _, e⟩
            subst hlv
            have hy3 : -200000000000 ≤ y3 ∧ y3 ≤ 700 := by
              obtain ⟨_, _, _, _, hy1, hy2, _⟩ := HFACT.out
              have hHH := HH.out
              have hPz : (0 : Int) < 5 ^ q := Int.pow_pos (by omega)
              have e5 : ((5 ^ (q + 1) : Nat) : Int) = 5 * (5 : Int) ^ q := by rw [Nat.pow_succ, Int.natCast_mul, Int.natCast_pow, Int.mul_comm]; rfl
              rw [e5] at hHH
              omega
            have hsl : ¬ ((A.size : Int) = 1) := by omega
            obtain ⟨i0, hi0, hz0, hz1, hz2⟩ := info_parts Tryd.info31
            go_wp2_with (at_builtin; refine wpList_append_lies _ rfl _ _ 29 rfl (w.heap.size + 1) 31 i0 (vv 0 ⟨#[]⟩ (.slice none 0 0)) 3 48 Tryd.underlying29 hi0 hz0 hz1 hz2 rfl (by decide) _ _ _ rfl (HO.out.alloc _) ⟨wr.heap.size, 0, none⟩ 1 1 (vcell (v2, .slice va v2.l.length vc)) rfl rfl ?hn ?h1 (by decide) ?c3 ?c4 ?c5 (wr.heap.size + 1) ?hH ?_)
            case hn => exact World.news_of_block (heap_alloc_new wr _)
            case h1 => intro u hu; simp only [vcell, List.mem_cons, List.mem_nil_iff, or_false] at hu; rcases hu with rfl | rfl | rfl <;> rfl
            case c3 => unfold maxLen; omega
            case c4 => omega
            case c5 => have := HSZ.out; have := HW6.out; simp; omega
            case hH => simp
            intro g cap w7 hown7 hgr hat _
            have hb8 := below1 wr (.cells #[.int .i64 v2.n, .string v2.s, .slice va v2.l.length vc] 31)
            have hs8 : (wr.alloc (.cells #[.int .i64 v2.n, .string v2.s, .slice va v2.l.length vc] 31)).heap.size = wr.heap.size + 1 := by simp
            have hszr := HSZ.out
            have hw6 := HW6.out
            obtain ⟨r1, r2, r3, r4⟩ := grow_K (M := M) (t := v2) (x := .slice va v2.l.length vc) (S := fun b => w.heap.size + 1 ≤ b ∧ b < w6.heap.size) (by omega) (by omega) HO.out (fun p hp => (HPS.out p hp).1) (Keeps.of hb8) (HV.out.congr (fun _ h => h) (fun b hb => hb8.block b (by omega))) (fun b hb => ⟨hb.1, by rw [hs8]; omega, fun e => by have := HOB.out _ e; omega⟩) hown7 hgr (by rw [hs8]; exact hat)
            have hM7 : MkAt w7 M N S n4 s3 x3 (y3 - 200 * ps.length) := r4.trans ((hb8.block M (by omega)).trans HL.out.m)
            have c5' := cellOf (j := 5) hM7 rfl
            have f5' := frozenOf (j := 5) hM7
            have HL7 : Hid (Lf w w7 M N S n4 s3 x3 (y3 - 200 * ps.length)) := ⟨(r3.block _ (by omega) (by omega)).trans HL.out.r, hM7, HL.out.k.trans (r3.mono (by omega))⟩
            have l1 : (ps ++ [(v2, Value.slice va v2.l.length vc)]).length = ps.length + 1 := by simp
            have ey : y3 - 200 * (ps.length : Int) - 200 = y3 - 200 * ((ps ++ [(v2, Value.slice va v2.l.length vc)]).length : Int) := by rw [l1]; omega
            have hl8 := HL7.out.bytes hlt (y3 - 200 * (ps.length : Int) - 200)
            have hk8 := keeps_set M w7.heap.size 5 w7 (.int .i64 (y3 - 200 * (ps.length : Int) - 200))
            have HL8 := hide hl8
            have HO8 := hide (ownsRow_keeps r1 (by omega) hk8)
            have hne : (.slice (some ⟨g, 0, none⟩) (ps.length + 1) cap : Value).ownBlock = some g := rfl
            have HOB8 : Hid (∀ g', (.slice (some ⟨g, 0, none⟩) (ps.length + 1) cap : Value).ownBlock = some g' → w6.heap.size < g') := fun g' e => by
              have : g = g' := by simpa [Value.ownBlock] using e
              subst this
              rcases hat with h | h
              · exact HOB.out _ h
              · omega
            have HFR : Hid (∀ b, b < w6.heap.size + 1 → b ≠ M → w.heap.size ≤ b → (w7.setCell ⟨M, 5, none⟩ (.int .i64 (y3 - 200 * (ps.length : Int) - 200))).heap[b]? = wr.heap[b]?) := fun b h1 h2 h3 => (heap_setCell_other w7 ⟨M, 5, none⟩ b _ h2).trans ((hgr.block b (by rw [hs8]; omega) (fun e => by have := HOB.out _ e.symm; omega)).trans (hb8.block b (by omega)))
            have HPS8 : Hid (∀ p, p ∈ ps ++ [(v2, Value.slice va v2.l.length vc)] → VsAt (w7.setCell ⟨M, 5, none⟩ (.int .i64 (y3 - 200 * (ps.length : Int) - 200))) (Beside (w.heap.size + 1) (.slice (some ⟨g, 0, none⟩) (ps.length + 1) cap) (w7.setCell ⟨M, 5, none⟩ (.int .i64 (y3 - 200 * (ps.length : Int) - 200)))) p.1.l p.2 ∧ p.1 = v2) := fun p hp =>
              ⟨(r2 p hp).congr (fun b hb => ⟨hb.1, by rw [size_set]; exact hb.2.1, hb.2.2⟩) (fun b hb => heap_setCell_other w7 ⟨M, 5, none⟩ b _ (by have := hb.1; show b ≠ M; omega)), by
                rcases List.mem_append.1 hp with h | h
                · exact (HPS.out p h).2
                · obtain rfl : p = (v2, Value.slice va v2.l.length vc) := by simpa using h
                  rfl⟩
            have HSZ8 : Hid (w6.heap.size + 1 + 1 ≤ (w7.setCell ⟨M, 5, none⟩ (.int .i64 (y3 - 200 * (ps.length : Int) - 200))).heap.size) := by show _ ≤ _; rw [size_set]; have := hgr.size; omega
            have HVEC8 : Hid (Orch.Vec validB (q + 1) T ((ps ++ [(v2, Value.slice va v2.l.length vc)]).map Prod.fst) (pre ++ pre2) ∧ (pre ++ pre2).length = (ps ++ [(v2, Value.slice va v2.l.length vc)]).length * pre2.length) := ⟨by rw [List.map_append]; exact HVEC.out.1.snoc HLY.out, by rw [l1, List.length_append, HVEC.out.2, Nat.succ_mul]⟩
            have HC8 : Hid ((w7.setCell ⟨M, 5, none⟩ (.int .i64 (y3 - 200 * (ps.length : Int) - 200))).heap[w6.heap.size]? = some (.cells #[.int .i64 v2.n, .string v2.s, .slice va v2.l.length vc] 31)) := (HFR.out _ (by omega) (by omega) (by omega)).trans HC.out
            have HV8 : Hid (VsAt (w7.setCell ⟨M, 5, none⟩ (.int .i64 (y3 - 200 * (ps.length : Int) - 200))) (fun b => w.heap.size + 1 ≤ b ∧ b < w6.heap.size) v2.l (.slice va v2.l.length vc)) := HV.out.congr (fun _ h => h) (fun b hb => HFR.out b (by omega) (by omega) (by omega))
            have HEY := hide ey
            have HL1 := hide l1
            clear r1 r2 r3 r4 hM7 hb8 hs8 hszr hw6 hown7 hgr hat hl8 hk8 hne hi0 hz0 hz1 hz2 ey l1 d0 d1 d2
            by_cases hlow : y3 - 200 * (ps.length : Int) - 200 < 250
            ·
              have HVE : Hid (Orch.Vec validB (q + 1) T ((ps ++ [(v2, Value.slice va v2.l.length vc)]).map Prod.fst) (pre ++ pre2) ∧ (pre ++ pre2).length = (ps.length + 1) * pre2.length) := ⟨HVEC8.out.1, by rw [HVEC8.out.2, HL1.out]⟩
              go_wp2_with (refine wpList_store_row rfl 31 _ _ rfl w.heap.size #[.int .i64 0, .string ⟨#[]⟩, .slice (some ⟨g, 0, none⟩) (ps.length + 1) cap] rfl rfl 31 _ HL8.out.r Tryd.size31 rfl (one_v _ _ _ _ _) ?_)
              have hV := done_V (B := w.heap.size + 1) HO8.out (fun p hp => (HPS8.out p hp).1) (Nat.le_refl _)
              obtain ⟨t1, t2, t3⟩ := HL8.out.store hlt #[.int .i64 0, .string ⟨#[]⟩, .slice (some ⟨g, 0, none⟩) (ps.length + 1) cap]
              refine bp_gen (fun X => X.heap[w.heap.size]? = some (.cells #[.int .i64 0, .string ⟨#[]⟩, .slice (some ⟨g, 0, none⟩) (ps.length + 1) cap] 31) ∧ MkAt X M N S n4 s3 x3 (y3 - 200 * (ps.length : Int) - 200) ∧ Keeps M w.heap.size w X ∧ VsAt X (fun b => w.heap.size ≤ b ∧ b < X.heap.size) ((ps ++ [(v2, Value.slice va v2.l.length vc)]).map Prod.fst) (.slice (some ⟨g, 0, none⟩) (ps.length + 1) cap))
                ⟨t1, t2, t3, hV.congr (fun b hb => ⟨by omega, by simpa using hb.2⟩) (fun b hb => setRow_other _ _ _ _ (by omega))⟩ ?_
              rintro X ⟨hX, hXm, hXk, hXv⟩
              have c0 := cellOf (j := 0) hX rfl
              have c1 := cellOf (j := 1) hX rfl
              have c2 := cellOf (j := 2) hX rfl
              obtain ⟨hp1, hp2, hx1, hx2, hy1, hy2, hn3, hs3⟩ := HFACT.out
              have hBD := HBD.out
              refine bodyPost_ret (v := .tuple #[.string (⟨#[91]⟩ ++ A ++ ⟨#[93]⟩), vv 0 ⟨#[]⟩ (.slice (some ⟨g, 0, none⟩) (ps.length + 1) cap)]) (by simp [results, Tryd.results7, go_sem, c0, c1, c2]) rfl ⟨md_vec (k := ps.length + 1) (L := pre2.length) (y3 := y3) (T := T) (pre := pre ++ pre2) (vs := (ps ++ [(v2, Value.slice va v2.l.length vc)]).map Prod.fst) (by simp) HSTR.out (by omega) (by omega) HRD.out HVE.out.1 HVE.out.2 (by omega) (fun e he => by obtain ⟨p, hp, rfl⟩ := List.mem_map.1 he; rw [(HPS8.out p hp).2]; exact HSM.out) (by have := vec_sum (k := ps.length + 1) (L := pre2.length) (y3 := y3) (c := σ.length) (by omega) (by omega) hy' hσ60 hp2 hy1 (fun _ => by omega); rw [show y3 - 200 * (ps.length : Int) - 200 = y3 - 200 * ((ps.length + 1 : Nat) : Int) by omega]; omega) hx1 hx2 hy1 hy2 (by omega) (by omega) (by omega) (by omega) hXv hXm, hXk⟩
            · go_wp2_with fail
              go_roundw
              case rel => exact ⟨j', ps ++ [(v2, .slice va v2.l.length vc)], .slice (some ⟨g, 0, none⟩) (ps.length + 1) cap, pre ++ pre2, rfl, by rw [HL1.out]; omega, rfl, by rw [HL1.out]; exact HL1.out ▸ HO8, HPS8, HOB8, HSZ8, HC8, HV8, HVEC8, by rw [← HEY.out]; exact HL8, fun _ => by rw [← HEY.out]; omega⟩
              case measure => simp [intOf]
          · obtain rfl : j = 0 := by omega
            have hps3 : ps.length ≤ 3 := by omega
            obtain ⟨qa, qc, hlv⟩ : ∃ a c, u9 = .slice a ps.length c := by
              rcases HO.out.2 with ⟨e, h⟩ | ⟨g, cap, cur, e, _⟩
              · exact ⟨none, 0, by rw [e, h]⟩
              · exact ⟨_, _, e⟩
            subst hlv
            have HVE := HVEC
            go_wp2_with (refine wpList_store_row rfl 31 _ _ rfl w.heap.size #[.int .i64 0, .string ⟨#[]⟩, .slice qa ps.length qc] rfl rfl 31 _ HL.out.r Tryd.size31 rfl (one_v _ _ _ _ _) ?_)
            have hV := done_V (B := w.heap.size + 1) HO.out (fun p hp => (HPS.out p hp).1) (Nat.le_refl _)
            obtain ⟨t1, t2, t3⟩ := HL.out.store hlt #[.int .i64 0, .string ⟨#[]⟩, .slice qa ps.length qc]
            refine bp_gen (fun X => X.heap[w.heap.size]? = some (.cells #[.int .i64 0, .string ⟨#[]⟩, .slice qa ps.length qc] 31) ∧ MkAt X M N S n4 s3 x3 (y3 - 200 * (ps.length : Int)) ∧ Keeps M w.heap.size w X ∧ VsAt X (fun b => w.heap.size ≤ b ∧ b < X.heap.size) ((ps).map Prod.fst) (.slice qa ps.length qc))
              ⟨t1, t2, t3, hV.congr (fun b hb => ⟨by omega, by simpa using hb.2⟩) (fun b hb => setRow_other _ _ _ _ (by omega))⟩ ?_
            rintro X ⟨hX, hXm, hXk, hXv⟩
            have c0 := cellOf (j := 0) hX rfl
            have c1 := cellOf (j := 1) hX rfl
            have c2 := cellOf (j := 2) hX rfl
            obtain ⟨hp1, hp2, hx1, hx2, hy1, hy2, hn3, hs3⟩ := HFACT.out
            have hBD := HBD.out
            refine bodyPost_ret (v := .tuple #[.string (⟨#[91]⟩ ++ A ++ ⟨#[93]⟩), vv 0 ⟨#[]⟩ (.slice qa ps.length qc)]) (by simp [results, Tryd.results7, go_sem, c0, c1, c2]) rfl ⟨md_vec (k := ps.length) (L := pre2.length) (y3 := y3) (T := T) (pre := pre) (vs := (ps).map Prod.fst) (by simp) HSTR.out (by omega) (by omega) HRD.out HVE.out.1 HVE.out.2 (by omega) (fun e he => by obtain ⟨p, hp, rfl⟩ := List.mem_map.1 he; rw [(HPS.out p hp).2]; exact HSM.out) (by have := vec_sum (k := ps.length) (L := pre2.length) (y3 := y3) (c := σ.length) (by omega) (by omega) hy' hσ60 hp2 hy1 (fun _ => by omega); omega) hx1 hx2 hy1 hy2 (by omega) (by omega) (by omega) (by omega) hXv hXm, hXk⟩
    · have H2 : Hid (Lf w ((w'.setCell ⟨M, 4, none⟩ (.int .i64 (x - 2))).setCell ⟨M, 5, none⟩ (.int .i64 (y - 4))) M N S n1 s (x - 2) (y - 4)) :=
        Lf.bytes ⟨(heap_setCell_other w' ⟨M, 4, none⟩ _ _ (Nat.ne_of_gt hlt)).trans H1.out.r, H1.out.m.set 4 _, H1.out.k.trans (keeps_set _ _ _ _ _)⟩ hlt _
      go_wp2_with fail
      clear H1 c4 c5 f4 f5
      have hsz2 : ((w'.setCell ⟨M, 4, none⟩ (.int .i64 (x - 2))).setCell ⟨M, 5, none⟩ (.int .i64 (y - 4))).heap.size = w'.heap.size := by rw [size_set, size_set]
      generalize (w'.setCell ⟨M, 4, none⟩ (.int .i64 (x - 2))).setCell ⟨M, 5, none⟩ (.int .i64 (y - 4)) = w2 at *
      have hw2 := ltOf H2.out.r
      have hk2 : Below w2.heap.size w2 (w2.alloc (.cells #[] 31)) := below1 _ _
      have H2a := hide (H2.out.next hlt ((hk2.block M (by omega)).trans H2.out.m) (Keeps.of hk2))
      have ho0 := own_empty w2 (w.heap.size + 1) (by omega)
      rw [hsz2] at ho0
      have HO0 := hide ho0
      clear ho0
      have HSZ0 : Hid (w.heap.size + 1 ≤ (w2.alloc (.cells #[] 31)).heap.size) := by show _ ≤ _; simp; omega
      clear hk2
      generalize hW3 : w2.alloc (.cells #[] 31) = w3 at *
      clear hW3
      refine (number_any _ M N S n1 s _ _ H2a.out.m (HNb.out _ _ hlt H2a.out.k) (by omega)).mono ?_
      rintro e w4 ⟨⟨z2, n2, rfl, hz2, hz2', hn2, hM4⟩, hK4⟩
      have H4 := hide (H2a.out.next hlt hM4 hK4)
      have HO4 := hide (ownsRow_keeps HO0.out (by omega) hK4)
      have HSZ4 := hide (Nat.le_trans HSZ0.out hK4.size)
      clear hM4 hK4 H2a H2 HO0 HSZ0
      go_wp2_with fail
      refine (pick_any w4 z2 4 hz2 hz2' (by omega) (by omega)).mono ?_
      rintro e w5 ⟨⟨a4, ha4, rfl⟩, rfl⟩
      go_wp2_with fail
      have HMD : Hid (∀ (W : World) (n s : Nat) (x y : Int), Lf w W M N S n s x y → n + 5 ^ (q + 2) ≤ 900000000 → s + 5 ^ (q + 2) ≤ 900000000 → -100 ≤ x → x ≤ 40 → -100000000000 ≤ y - 1000 * 5 ^ q → y ≤ 700 →
          Calls Tryd.prog 7 #[.pointer (some ⟨M, 0, none⟩), .int .i64 (8 - ((q : Int) + 1) + 1)] W fun e w' => MdRes q W w' M N S n s x y e ∧ Keeps M W.heap.size W w') := fun W n s x y h h1 h2 h3 h4 h5 h6 => by
        rw [show (8 - ((q : Int) + 1) + 1) = 8 - (q : Int) by omega]
        exact hih W M N S n s x y h.m (HNb.out _ _ hlt h.k) (HSb.out _ _ hlt h.k) h1 h2 h3 h4 h5 h6
      go_loopw [11, 12, 13] (fun s11 l12 c13 wr => ∃ (j : Nat) (σ : List UInt8) (Ts : List Orch.Ty) (ps : List (Orch.V × Value)) (lv : Value) (pre : List UInt8) (n' s' : Nat) (x' y' : Int),
          c13 = .int .i64 j ∧ ps.length + j = 1 + a4 ∧ s11 = .string ⟨(40 :: σ).toArray⟩ ∧ l12 = lv ∧ Hid (wr.ownsRow (w.heap.size + 1) 31 3 lv ps.length (ps.flatMap vcell)) ∧ Hid (∀ p, p ∈ ps → VsAt wr (Beside (w.heap.size + 1) lv wr) p.1.l p.2) ∧
          Hid (w.heap.size + 1 ≤ wr.heap.size) ∧ Hid (Lf w wr M N S n' s' x' y') ∧ Hid (Orch.Tup validB (q + 1) σ Ts (ps.map Prod.fst) pre) ∧ Hid (∀ p, p ∈ ps → Small (q + 1) p.1) ∧ Hid (ps.length ≤ pre.length ∧ (pre.length : Int) ≤ max (y - 4) 0 - max y' 0 + σ.length) ∧
          Hid ((σ.length : Int) = x - 2 - x' ∧ min (x - 2 - ps.length) (7 - 3 * q - ps.length) ≤ x' ∧ x' ≤ x - 2) ∧ Hid (y' ≤ y - 4 ∧ y - 4 - ps.length * (1000 * 5 ^ q) ≤ y') ∧ Hid (n' ≤ n + 2 + ps.length * 5 ^ (q + 2) ∧ s' ≤ s + ps.length * 5 ^ (q + 2)))
        (fun _ _ c _ => (intOf c).toNat)
      case atStart => exact ⟨1 + a4, [], [], [], _, [], n2, s, x - 2, y - 4, by first | rfl | go_num, by simp, rfl, rfl, HO4, fun p hp => by simp at hp, HSZ4, H4, Orch.Tup.nil _, fun p hp => by simp at hp, ⟨by simp, by simp⟩, ⟨by simp, by simp; omega, by omega⟩, ⟨by omega, by simp⟩, ⟨by simp; omega, by simp⟩⟩
      case round =>
        obtain ⟨j, σ, Ts, ps, lv, pre, n', s', x', y', rfl, hj, rfl, rfl, HO, HPS, HSZ, HL, HT, HSM, HPRE, HXX, HYY, HNS⟩ := hrel
        by_cases hj0 : 0 < j
        · obtain ⟨j', rfl⟩ : ∃ j', j = j' + 1 := ⟨j - 1, by omega⟩
          have hjz : (0 : Int) < (j' + 1 : Nat) := by omega
          have hps4 : ps.length ≤ 3 := by omega
          have HK25 : 25 ≤ 5 ^ (q + 2) ∧ 5 ^ (q + 1 + 2) = 5 * 5 ^ (q + 2) := ⟨by rw [Nat.pow_add]; have : 1 ≤ 5 ^ q := Nat.one_le_pow _ _ (by omega); omega, by rw [show q + 1 + 2 = (q + 2) + 1 by omega, Nat.pow_succ]; omega⟩
          have hmul : ps.length * 5 ^ (q + 2) ≤ 3 * 5 ^ (q + 2) := Nat.mul_le_mul_right _ hps4
          have hPz : (0 : Int) < 5 ^ q := Int.pow_pos (by omega)
          have hmulz : (ps.length : Int) * (1000 * 5 ^ q) ≤ 3 * (1000 * 5 ^ q) := Int.mul_le_mul_of_nonneg_right (by omega) (by omega)
          have hP := HPOW'.out
          have hHH := HH.out
          have hXX := HXX.out
          have hYY := HYY.out
          have hNS := HNS.out
          have e5 : ((5 ^ (q + 1) : Nat) : Int) = 5 * (5 : Int) ^ q := by rw [Nat.pow_succ, Int.natCast_mul, Int.natCast_pow, Int.mul_comm]; rfl
          rw [e5] at hHH
          have hσ : σ.length ≤ 60 := by omega
          have HCALL := hide (HMD.out wr n' s' x' y' HL.out (by omega) (by omega) (by omega) (by omega) (by omega) (by omega))
          clear HK25 hmul hPz hmulz hP hHH hXX hYY hNS e5
          go_wp2_with fail
          refine HCALL.out.mono ?_
          rintro e w6 ⟨⟨σ2, T2, v2, lv2, pre2, n3, s3, x3, y3, rfl, hvs, hsm, hrd, hly, hlf, hp1, hp2, hx1, hx2, hy1, hy2, hn3, hs3, hM6⟩, hK6⟩
          obtain ⟨va, vc, rfl⟩ := hvs.shape
          obtain ⟨qa, qc, hlv⟩ : ∃ a c, u12 = .slice a ps.length c := by
            rcases HO.out.2 with ⟨e, h⟩ | ⟨g, cap, cur, e, _⟩
            · exact ⟨none, 0, by rw [e, h]⟩
            · exact ⟨_, _, e⟩
          subst hlv
          have hb1 : (⟨(40 :: σ).toArray⟩ : ByteArray).size ≤ 100 := by show (40 :: σ).toArray.size ≤ 100; simp; omega
          have hb2 : (⟨σ2.toArray⟩ : ByteArray).size ≤ 100 := by show σ2.toArray.size ≤ 100; have hXX := HXX.out; simp; omega
          have HSTR : Hid ((⟨(40 :: σ).toArray⟩ : ByteArray) ++ ⟨σ2.toArray⟩ = ⟨(40 :: (σ ++ σ2)).toArray⟩) := by
            show _ = _
            apply ByteArray.ext
            simp [ByteArray.data_append]
          generalize (⟨(40 :: σ).toArray⟩ : ByteArray) = A1 at *
          generalize (⟨σ2.toArray⟩ : ByteArray) = A2 at *
          obtain ⟨i0, hi0, hz0, hz1, hz2⟩ := info_parts Tryd.info31
          go_wp2_with (at_builtin; refine wpList_append_lies _ rfl _ _ 29 rfl (w.heap.size + 1) 31 i0 (vv 0 ⟨#[]⟩ (.slice none 0 0)) 3 48 Tryd.underlying29 hi0 hz0 hz1 hz2 rfl (by decide) _ _ _ rfl (((ownsRow_keeps HO.out (by omega) hK6).alloc _).alloc _) ⟨w6.heap.size + 1, 0, none⟩ 1 1 (vcell (v2, .slice va v2.l.length vc)) rfl rfl ?hn ?h1 (by decide) ?c3 ?c4 ?c5 (w6.heap.size + 1 + 1) ?hH ?_)
          case hn => exact World.news_of_block (new2 w6 _ _).2
          case h1 => intro u hu; simp only [vcell, List.mem_cons, List.mem_nil_iff, or_false] at hu; rcases hu with rfl | rfl | rfl <;> rfl
          case c3 => unfold maxLen; omega
          case c4 => omega
          case c5 => have := HSZ.out; have := hK6.size; simp; omega
          case hH => simp
          intro g cap w7 hown7 hgr hat _
          have hb8 := below2 w6 (.cells #[.int .i64 v2.n, .string v2.s, .slice va v2.l.length vc] 31) (.cells #[.int .i64 v2.n, .string v2.s, .slice va v2.l.length vc] 31)
          have hs8 : ((w6.alloc (.cells #[.int .i64 v2.n, .string v2.s, .slice va v2.l.length vc] 31)).alloc (.cells #[.int .i64 v2.n, .string v2.s, .slice va v2.l.length vc] 31)).heap.size = w6.heap.size + 1 + 1 := by simp
          have hk8 : Keeps M wr.heap.size wr ((w6.alloc (.cells #[.int .i64 v2.n, .string v2.s, .slice va v2.l.length vc] 31)).alloc (.cells #[.int .i64 v2.n, .string v2.s, .slice va v2.l.length vc] 31)) := hK6.trans ((Keeps.of hb8).mono hK6.size)
          have hszr := HSZ.out
          obtain ⟨r1, r2, r3, r4⟩ := grow_K (t := v2) (x := .slice va v2.l.length vc) (S := fun b => wr.heap.size ≤ b ∧ b < w6.heap.size) (by omega) hszr HO.out HPS.out hk8 (hvs.congr (fun _ h => h) (fun b hb => hb8.block b hb.2)) (fun b hb => ⟨by omega, by rw [hs8]; omega, fun e => by have := (ownBlock_lt HO.out e).2; omega⟩) hown7 hgr (by rw [hs8]; exact hat)
          have hM7 : MkAt w7 M N S n3 s3 x3 y3 := r4.trans ((hb8.block M (by have := hK6.size; omega)).trans hM6)
          have HL7 : Hid (Lf w w7 M N S n3 s3 x3 y3) := ⟨(r3.block _ (by omega) (by omega)).trans HL.out.r, hM7, HL.out.k.trans (r3.mono (by omega))⟩
          have HSZ7 : Hid (w.heap.size + 1 ≤ w7.heap.size) := Nat.le_trans hszr r3.size
          have HT7 := hide (HT.out.snoc hrd hly)
          have HSM7 : Hid (∀ p, p ∈ ps ++ [(v2, Value.slice va v2.l.length vc)] → Small (q + 1) p.1) := fun p hp => by
            rcases List.mem_append.1 hp with h | h
            · exact HSM.out p h
            · obtain rfl : p = (v2, Value.slice va v2.l.length vc) := by simpa using h
              exact hsm
          have R1 := hide r1
          have R2 := hide r2
          have HFACT := hide (And.intro hp1 (And.intro hp2 (And.intro hx1 (And.intro hx2 (And.intro hy1 (And.intro hy2 (And.intro hn3 hs3)))))))
          clear r1 r2 r3 r4 hM7 hb8 hs8 hk8 hszr hown7 hgr hat hvs hsm hrd hly hlf hp1 hp2 hx1 hx2 hy1 hy2 hn3 hs3 hM6 hK6 hi0 hz0 hz1 hz2
          go_wp2
          go_roundw
          case rel =>
            obtain ⟨hp1, hp2, hx1, hx2, hy1, hy2, hn3, hs3⟩ := HFACT.out
            have hPRE := HPRE.out
            have hXX := HXX.out
            have hYY := HYY.out
            have hNS := HNS.out
            have l1 : (ps ++ [(v2, Value.slice va v2.l.length vc)]).length = ps.length + 1 := by simp
            have m1 : (ps.length + 1) * 5 ^ (q + 2) = ps.length * 5 ^ (q + 2) + 5 ^ (q + 2) := Nat.succ_mul _ _
            have m2 : ((ps.length + 1 : Nat) : Int) * (1000 * 5 ^ q) = ps.length * (1000 * 5 ^ q) + 1000 * 5 ^ q := by rw [Int.natCast_add, Int.add_mul]; simp
            refine ⟨j', σ ++ σ2, Ts ++ [T2], ps ++ [(v2, .slice va v2.l.length vc)], .slice (some ⟨g, 0, none⟩) (ps.length + 1) cap, pre ++ pre2, n3, s3, x3, y3, rfl, by rw [l1]; omega, by rw [HSTR.out], rfl, R1, R2, HSZ7, HL7, by rw [List.map_append]; exact HT7, HSM7, ?_, ?_, ?_, ?_⟩
            · show _ ∧ _
              rw [l1, List.length_append, List.length_append]
              omega
            · show _ ∧ _
              rw [l1, List.length_append]
              omega
            · show _ ∧ _
              rw [l1, m2]
              omega
            · show _ ∧ _
              rw [l1, m1]
              omega
          case measure => simp [intOf]
        · obtain rfl : j = 0 := by omega
          have hXX := HXX.out
          have hb1 : (⟨(40 :: σ).toArray⟩ : ByteArray).size ≤ 100 := by show (40 :: σ).toArray.size ≤ 100; simp; omega
          have HSTR : Hid ((⟨(40 :: σ).toArray⟩ : ByteArray) ++ ⟨#[41]⟩ = ⟨(40 :: (σ ++ [41])).toArray⟩) := by
            show _ = _
            apply ByteArray.ext
            simp [ByteArray.data_append]
          clear hXX
          generalize (⟨(40 :: σ).toArray⟩ : ByteArray) = A1 at *
          obtain ⟨qa, qc, hlv⟩ : ∃ a c, u12 = .slice a ps.length c := by
            rcases HO.out.2 with ⟨e, h⟩ | ⟨g, cap, cur, e, _⟩
            · exact ⟨none, 0, by rw [e, h]⟩
            · exact ⟨_, _, e⟩
          subst hlv
          go_wp2_with (refine wpList_store_row rfl 31 _ _ rfl w.heap.size #[.int .i64 0, .string ⟨#[]⟩, .slice qa ps.length qc] rfl rfl 31 _ HL.out.r Tryd.size31 rfl (one_v _ _ _ _ _) ?_)
          have hV := done_V (B := w.heap.size + 1) HO.out HPS.out (Nat.le_refl _)
          obtain ⟨t1, t2, t3⟩ := HL.out.store hlt #[.int .i64 0, .string ⟨#[]⟩, .slice qa ps.length qc]
          refine bp_gen (fun X => X.heap[w.heap.size]? = some (.cells #[.int .i64 0, .string ⟨#[]⟩, .slice qa ps.length qc] 31) ∧ MkAt X M N S n' s' x' y' ∧ Keeps M w.heap.size w X ∧ VsAt X (fun b => w.heap.size ≤ b ∧ b < X.heap.size) (ps.map Prod.fst) (.slice qa ps.length qc))
            ⟨t1, t2, t3, hV.congr (fun b hb => ⟨by omega, by simpa using hb.2⟩) (fun b hb => setRow_other _ _ _ _ (by omega))⟩ ?_
          rintro X ⟨hX, hXm, hXk, hXv⟩
          have c0 := cellOf (j := 0) hX rfl
          have c1 := cellOf (j := 1) hX rfl
          have c2 := cellOf (j := 2) hX rfl
          have hT := HT.out
          have hPRE := HPRE.out
          have hXX := HXX.out
          have hYY := HYY.out
          have hNS := HNS.out
          have hTl : (ps.map Prod.fst).length = Ts.length := hT.same
          rw [List.length_map] at hTl
          have hl4 : ps.length ≤ 4 := by omega
          have K25 : 25 ≤ 5 ^ (q + 2) := by rw [Nat.pow_add]; have : 1 ≤ 5 ^ q := Nat.one_le_pow _ _ (by omega); omega
          have K5 : 5 ^ (q + 1 + 2) = 5 * 5 ^ (q + 2) := by rw [show q + 1 + 2 = (q + 2) + 1 by omega, Nat.pow_succ]; omega
          have hmul : ps.length * 5 ^ (q + 2) ≤ 4 * 5 ^ (q + 2) := Nat.mul_le_mul_right _ hl4
          have hPz : (0 : Int) < 5 ^ q := Int.pow_pos (by omega)
          have hmulz : (ps.length : Int) * (1000 * 5 ^ q) ≤ 4 * (1000 * 5 ^ q) := Int.mul_le_mul_of_nonneg_right (by omega) (by omega)
          have e5 : (5 : Int) ^ (q + 1) = 5 * 5 ^ q := by rw [Int.pow_succ, Int.mul_comm]
          have hlen : (40 :: (σ ++ [41])).length = σ.length + 2 := by simp
          refine bodyPost_ret (v := .tuple #[.string (A1 ++ ⟨#[41]⟩), vv 0 ⟨#[]⟩ (.slice qa ps.length qc)]) (by simp [results, Tryd.results7, go_sem, c0, c1, c2]) rfl ⟨⟨40 :: (σ ++ [41]), .mk Orch.l40 Ts, .mk 0 ByteArray.empty (ps.map Prod.fst), .slice qa ps.length qc, pre, n', s', x', y', by rw [HSTR.out]; rfl, hXv, ?_, Orch.reads_tup hT (by omega), Orch.lays_tup hT, fun h => by simp at h, by omega, by rw [hlen]; omega, by rw [hlen]; omega, by omega, by omega, by rw [e5]; omega, by rw [K5]; omega, by rw [K5]; omega, hXm⟩, hXk⟩
          refine ⟨?_, ?_⟩
          · show (ps.map Prod.fst).length ≤ 1000
            rw [List.length_map]; omega
          · intro e he
            obtain ⟨p, hp, rfl⟩ := List.mem_map.1 he
            exact HSM.out p hp
end Go.Proofs.YtlghcldiboecoaaDoor
