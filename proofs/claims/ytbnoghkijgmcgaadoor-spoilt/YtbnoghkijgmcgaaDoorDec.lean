/- take, whole; Decode. -/
import Derived.Test.YtbnoghkijgmcgaaDoorTakeW
set_option linter.unusedVariables false
namespace Go.Proofs.YtbnoghkijgmcgaaDoor
open Go.RowKit
section
variable {valid : ByteArray → Bool} {Tabs : World → Prop}

/-- An answer of takeElements as one of take. -/
theorem te_take {W wb : World} {bv : Value} {l : List UInt8} {e : Ending} {o : Option (List Orch.V × List UInt8)} (h : teRes W wb bv l e o) : takeRes W wb bv l e (o.map Orch.listV) := by
  cases o with
  | none => exact h
  | some es => obtain ⟨es, rest⟩ := es; exact h

theorem res_shape {W wb : World} {bv : Value} {l : List UInt8} {e : Ending} {o : Option (Orch.V × List UInt8)} (h : takeRes W wb bv l e o) :
    ∃ (n : Int) (s : ByteArray) (a : Option Addr) (m c : Nat) (rv : Value) (ok : Bool), e = .returned (.tuple #[vv n s (.slice a m c), rv, .bool ok]) := by
  cases o with
  | none => obtain ⟨n, s, a, a', m, c, m', c', rfl⟩ := h; exact ⟨_, _, _, _, _, _, _, rfl⟩
  | some p =>
    obtain ⟨v, rest⟩ := p
    obtain ⟨lv, rv, rfl, hv, _⟩ := h
    obtain ⟨a, c, rfl⟩ := hv.shape
    exact ⟨_, _, _, _, _, _, _, rfl⟩

theorem res_handed {f : FuncId} {args : Array Value} {W : World} {bv : Value} {l : List UInt8} {o : Option (Orch.V × List UInt8)}
    (h : Calls Tryd.prog f args W fun e w' => takeRes W w' bv l e o ∧ Below W.heap.size W w') : Calls Tryd.prog f args W (handed (fun W v wb => takeRes W wb bv l (.returned v) o) W) := by
  refine h.mono ?_
  rintro e w' ⟨hr, hb⟩
  obtain ⟨n, s, a, m, c, rv, ok, rfl⟩ := res_shape hr
  exact ⟨⟨n, s, a, m, c, rv, ok, rfl, hr⟩, hb⟩

theorem res_on {w w' : World} {bv : Value} {l : List UInt8} {e : Ending} {o : Option (Orch.V × List UInt8)} (h : onEnd (fun W v wb => takeRes W wb bv l (.returned v) o) w e w') : takeRes w w' bv l e o ∧ Below w.heap.size w w' := by
  obtain ⟨⟨W, wb, v, rfl, hr, hs, hsz, hk⟩, hb⟩ := h
  refine ⟨?_, hb⟩
  cases o with
  | none => exact hr
  | some p =>
    obtain ⟨x, rest⟩ := p
    obtain ⟨lv, rv, he, hv, ht⟩ := hr
    exact ⟨lv, rv, he, hv.congr (fun b hb' => ⟨by omega, by rw [hsz]; exact hb'.2⟩) (fun b hb' => hk b (by omega)), ht⟩

theorem tk_succ (U : Utf valid Tabs) (k : Nat) (hte : TeSaid valid Tabs k) : TkSaid valid Tabs (k + 1) := by
  intro w hT t hok S psv hts hS bv l hl hbv
  obtain ⟨pa, pc, rfl⟩ := hts.shape
  have hTW : ∀ W, Below w.heap.size w W → Tabs W := fun W h => U.kept (U.size hT) h hT
  have hBW : ∀ W, Below w.heap.size w W → BsAt W bv l := fun W h => hbv.below h (Nat.le_refl _)
  have hTS : ∀ W, Below w.heap.size w W → TsAt W S t.ps (.slice pa t.ps.length pc) := fun W h => hts.congr (fun _ h' => h') (fun b hb => h.block b (hS b hb))
  have hSW : ∀ W, Below w.heap.size w W → ∀ b, S b → b < W.heap.size := fun W h b hb => Nat.lt_of_lt_of_le (hS b hb) h.size
  rcases letters_shape hok.1 with h | h | h | h
  · have hc := fun W (hb : Below w.heap.size w W) => res_handed (num_any U W (hTW W hb) k t hok h pa pc bv l hl (hBW W hb))
    simp only [tval, h] at hc ⊢
    exact (take_0 w _ _ _ _ _ _ pa _ pc bv _ hc).mono fun e w' he => res_on he
  · have hc := fun W (hb : Below w.heap.size w W) => res_handed (bytes_any U W (hTW W hb) k t hok h pa pc bv l hl (hBW W hb))
    simp only [tval, h] at hc ⊢
    exact (take_1 w _ _ _ _ _ _ pa _ pc bv _ hc).mono fun e w' he => res_on he
  · have hcnt := fun W (hb : Below w.heap.size w W) => takeCount_any W bv l hl (hBW W hb) 32 (by omega)
    rw [Orch.take]
    simp only [h]
    unfold countEnd at hcnt
    cases hc : Orch.count l 32 with
    | none =>
      rw [hc] at hcnt
      simp only [tval, h]
      exact take_2none w _ _ _ _ _ _ pa _ pc bv hcnt
    | some nr =>
      obtain ⟨n, rest⟩ := nr
      rw [hc] at hcnt
      have hcs := Orch.count_some hc
      have h30 : ∀ W v, Tail bv l v rest → Below w.heap.size w W → Calls Tryd.prog 62 #[tval t.l (.slice pa t.ps.length pc), .int .i64 n, v] W fun e w' => takeRes W w' bv l e ((Orch.takeE (Orch.take valid k) t n 0 rest).map Orch.listV) ∧ Below W.heap.size W w' := fun W v htl hb => by
        refine (hte W (hTW W hb) t hok S _ (hTS W hb) (hSW W hb) n (by omega) (Or.inl h) v rest (by omega) (htl W (hBW W hb))).mono ?_
        rintro e w' ⟨hr, hb'⟩
        refine ⟨?_, hb'⟩
        have := te_take hr
        cases ho : (Orch.takeE (Orch.take valid k) t n 0 rest).map Orch.listV with
        | none => rw [ho] at this; exact this
        | some p =>
          rw [ho] at this
          obtain ⟨x, r⟩ := p
          obtain ⟨lv, rv, he, hv, ht⟩ := this
          exact ⟨lv, rv, he, hv, htl.trans ht⟩
      have h30' := fun W v (hq : Tail bv l v rest) (hb : Below w.heap.size w W) => res_handed (h30 W v hq hb)
      simp only [tval, h] at h30' ⊢
      exact (take_2 w _ _ _ _ _ _ pa _ pc bv _ n (fun v => Tail bv l v rest) hcnt h30').mono fun e w' he => res_on he
  · rw [Orch.take]
    simp only [h]
    have h30 : ∀ W, Below w.heap.size w W → Calls Tryd.prog 62 #[tval t.l (.slice pa t.ps.length pc), .int .i64 t.ps.length, bv] W fun e w' => takeRes W w' bv l e ((Orch.takeE (Orch.take valid k) t t.ps.length 0 l).map Orch.listV) ∧ Below W.heap.size W w' := fun W hb => by
      refine (hte W (hTW W hb) t hok S _ (hTS W hb) (hSW W hb) t.ps.length hok.2.2.1 (Or.inr ⟨h, rfl⟩) bv l hl (hBW W hb)).mono ?_
      rintro e w' ⟨hr, hb'⟩
      exact ⟨te_take hr, hb'⟩
    have h30' := fun W (hb : Below w.heap.size w W) => res_handed (h30 W hb)
    simp only [tval, h] at h30' ⊢
    exact (take_3 w _ _ _ _ _ _ pa _ pc bv _ h30').mono fun e w' he => res_on he

theorem tk_all (U : Utf valid Tabs) : ∀ k, TkSaid valid Tabs k := by
  intro k
  induction k with
  | zero => intro w _ t hok; exact absurd hok (by simp [okT])
  | succ k ih => exact tk_succ U k (te_of_tk U k ih)
end
end Go.Proofs.YtbnoghkijgmcgaaDoor
