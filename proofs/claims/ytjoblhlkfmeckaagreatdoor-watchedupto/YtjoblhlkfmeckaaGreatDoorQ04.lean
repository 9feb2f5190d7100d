import Derived.Test.YtjoblhlkfmeckaaGreatDoorQ03
set_option linter.unusedVariables false
set_option linter.unusedSimpArgs false
open Option renaming some → lp,none → od,isSome_none → yk
open Go renaming World → qq,Frame → qg,Value → tj,TypeId → s8,Addr → zu,stepG → dx,FloatKind → fi,Program → me,unwind → il,BinOp → eh,IntKind → ll,Event → p6,cellAtBytes → jh
open Bool renaming true → s7,false → vp
open Go.stepG renaming exec → th
open Go.World renaming cell? → q7,frozen? → cq
open Go.Frame renaming catches → eu
open Go.Op.Complex renaming sub → xu,mul → yu,add → vg,corrected → xf,quotient → wo,product → zi,arith → rh,conv → xq,cmp → ig
open Go.Builtin renaming unsafeAdd_ → zq,delete_ → al
open Array renaming forIn_toList → wv
open Go.Stepped.next renaming injEq → te
open Go.Conv renaming bytesToString → zl
open Go.Instr renaming keyThatStays → lu
open Or renaming inl → af,inr → o5
theorem M5k{p q:Prop}(k:q)(h:Hd q->p:=by
 intro kz
 simp only [bF]
 exact kz.1):p:=h ⟨k⟩
theorem S98{p:Prop}(h:p:=by
 cases o4 <;> first|rfl|exact absurd trivial n4):p:=h
theorem Zqn{p:Prop}(h:p:=by
 refine .inr (.inr (.inr ⟨⟨o4,?_,n4⟩,?_⟩))
 ·rw [h4];cases o4 <;> first|rfl|exact absurd trivial n4
 ·rw [hv4];rfl):p:=h
theorem Xx0{p:Prop}(h:p:=by
 refine .inr (.inr (.inl ⟨hJ,o,o',?_,?_,h1,h2⟩))
 ·rw [hw];cases o <;> simp_all [Obj.isChan]
 ·rw [hv];cases o' <;> simp_all [Obj.isChan]):p:=h
theorem Ljn{p:Prop}(h:p:=by
 refine⟨0,fun z z' v hs _=>One.ctl (fr':={ fr with mode:=.returning }) (fun cs w=>?_) hs (Zy hfr) hu⟩
 rw [Cj hm];simp [stepG.exec,htd,hfr.round,G]):p:=h
theorem Kjg{p:Prop}(h:p:=by
 have hl:∃o,∀cs w,stepG P true (G fr cs) w=.ended o w:=⟨_,fun cs w=>by rw [Cj hm];simp only [stepG.exec,htd,he,Option.elim,hfr.round];rfl⟩
 obtain⟨o,hl⟩:=hl
 exact⟨0,fun z z' v hs _=>One.lost (f:=fun _=>o) hl⟩):p:=h
theorem Tca{p:Prop}(h:p:=by
 simp only [runN,Stepped.next.injEq] at hr
 rw [←(Nk hr).1]
 exact⟨_,rfl⟩):p:=h
theorem M6q{p:Prop}(h:p:=by
 repeat' first|exact T.carith _ _ _ _|exact T.pure _|refine T.then ?_ (fun _=>?_)):p:=h
theorem O7z{p:Prop}(h:p:=by
 repeat' first|(with_reducible first|exact T.pure _|exact T.stuck _|exact T.loadCells _ _|refine T.arrayForInMem _ _ (fun f hf r=>?_)|refine T.then ?_ (fun _=>?_))|dsimp only|split):p:=h
theorem Ufq{p:Prop}(h:p:=by
 repeat' first|(with_reducible first|exact T.pure _|exact T.sizeOf _|exact T.part _ _ _|exact ih _ _|refine T.then ?_ (fun _=>?_))|dsimp only|split):p:=h
theorem X2p{p:Prop}(h:p:=by
 repeat' first|(with_reducible first|exact T.pure _|exact T.stuck _|exact T.stuckThen _ _|rw [pure_bind]|exact T.noEntry _|exact T.runtimePanic _|exact T.program|exact T.typeInfo _|exact T.underlying _|exact T.zeroValue _|exact T.asInt _|exact T.choose _|exact T.checkKey _ _ _ _|exact T.findKey Af _ _|exact T.keyThatStays _ _|refine T.then ?_ (fun _=>?_))|exact T.newObj trivial|dsimp only|split):p:=h
theorem Ii5{p:Prop}(h:p:=by
 refine T.getObjBind (fun o=>?_) (fun _ _=>trivial)
 repeat' first|(with_reducible first|exact T.pure _|exact T.stuck _|exact T.stuckThen _ _|rw [pure_bind]|exact T.noEntry _|exact T.runtimePanic _|exact T.program|exact T.typeInfo _|exact T.underlying _|exact T.zeroValue _|exact T.asInt _|exact T.choose _|exact T.checkKey _ _ _ _|exact T.findKey Af _ _|exact T.keyThatStays _ _|refine T.then ?_ (fun _=>?_))|exact T.newObj trivial|dsimp only|split):p:=h
theorem Ipn{p:Prop}(h:p:=by
 repeat' first|(with_reducible first|exact T.ta (T.pure _)|exact T.ta (T.stuck _)|exact T.ta (T.noEntry _)|exact T.ta (T.stuckThen _ _)|refine TA.then (T.pure _) (fun _=>?_)|refine TA.then (T.stuck _) (fun _=>?_)|refine TA.then (T.noEntry _) (fun _=>?_)|refine TA.then (T.choose _) (fun _=>?_)|refine TA.then (T.checkKey _ _ _ _) (fun _=>?_)|refine TA.then (T.findKey Af _ _) (fun _=>?_)|refine TA.then (T.keyThatStays _ _) (fun _=>?_))|exact TA.setObj trivial rfl|refine TA.bind (TA.setObj trivial rfl) (fun _=>?_)|dsimp only|split):p:=h
namespace Go.Pair
open Go Go.Conc
abbrev NF(v:qq):Prop:=Plain v
def EvJ(J:Loc->Prop)(B:Nat)(e:p6):Prop:=
 match e.loc with
 | .cell a=>¬J (.cell a)/\a.block<B
 | .obj r=>¬J (.obj r)/\r<B
 | .mark m=>RQ m
 | _=>False
def RJ(J:Loc->Prop)(B:Nat)(e:p6):Prop:=
 match e.loc with
 | .cell a=>¬J (.cell a)/\a.block<B
 | .obj r=>(¬J (.obj r)∨(e.write=vp/\e.sync=s7))/\r<B
 | .mark m=>RQ m
 | _=>False
def Alike(J:Loc->Prop)(w v:qq)(i:Nat):Prop:=
 v.heap[i]? = w.heap[i]? ∨
 (∃c c' e fz,w.heap[i]? = lp (.cells c e fz)/\v.heap[i]? = lp (.cells c' e fz)/\c'.size=c.size/\∀j,¬J (.cell ⟨i,j,od⟩)->c'[j]? = c[j]?) ∨
 (J (.obj i)/\∃o o',w.heap[i]? = lp o/\v.heap[i]? = lp o'/\o.isChan=s7/\o'.isChan=s7) ∨
 ((∃o,w.heap[i]? = lp o/\¬B7 o)/\v.heap[i]? = lp dead)
structure Ct(J:Loc->Prop)(w v:qq):Prop where
 size:v.heap.size=w.heap.size
 like:∀i,Alike J w v i
 os:v.os=w.os
 output:v.output=w.output
 tape:v.tape=w.tape
 drawn:v.drawn=w.drawn
def Za:Obj->Obj
 | .pending _ _=>dead
 | .view _ _=>dead
 | o=>o
def Cf(w:qq):qq:={ w with heap:=w.heap.map Za }
theorem Gu{o:Obj}(h:B7 o):Za o=o:=by cases o <;> first|rfl|exact h.elim
theorem It{o:Obj}(h:¬B7 o):Za o=dead:=by cases o <;> first|rfl|exact absurd trivial h
theorem Cr(w:qq)(i:Nat):(Cf w).heap[i]? = (w.heap[i]?).map Za:=by unfold Cf;exact bS
theorem Cw(w:qq):(Cf w).heap.size=w.heap.size:=by unfold Cf;exact Array.size_map
theorem Js{w:qq}{i:Nat}{o:Obj}(h:w.heap[i]? = lp o)(hk:B7 o):(Cf w).heap[i]? = lp o:=by rw [Cr,h,bA,Gu hk]
theorem J6{w:qq}{i:Nat}{o:Obj}(h:(Cf w).heap[i]? = lp o)(hk:B7 o):w.heap[i]? = lp o:=by
 rw [Cr] at h
 obtain⟨x,hx,rfl⟩:=aJ.1 h
 by_cases hx':B7 x
 ·rw [Gu hx'];exact hx
 ·rw [It hx'] at hk;exact hk.elim
theorem Qc(w:qq):NF (Cf w):=fun i o h=>by
 rw [Cr] at h
 obtain⟨x,hx,rfl⟩:=aJ.1 h
 by_cases hx':B7 x
 ·rw [Gu hx'];exact af hx'
 ·exact o5 (It hx')
theorem BP{J:Loc->Prop}{w v:qq}{i:Nat}(h:v.heap[i]? = (w.heap[i]?).map Za):Alike J w v i:=by
 cases ho:w.heap[i]? with
 | none=>rw [ho] at h;exact af (by rw [h,ho];rfl)
 | some o=>
  rw [ho] at h
  by_cases hk:B7 o
  ·exact af (by rw [h,ho,bA,Gu hk])
  ·exact o5 (o5 (o5 ⟨⟨o,ho,hk⟩,by rw [h,bA,It hk]⟩))
theorem V9{J:Loc->Prop}(w:qq):Ct J w (Cf w):=⟨Cw w,fun i=>BP (Cr w i),rfl,rfl,rfl,rfl⟩
def Vf(J:Loc->Prop)(i:Nat):Prop:=∀j,J (.cell ⟨i,j,od⟩)
def Fb(v:qq)(i:Nat):Prop:=∃c e fz,v.heap[i]? = lp (.cells c e fz)
def NJ(J:Loc->Prop)(v:qq):Prop:=NF v/\∀i,Vf J i->Fb v i
def Lp(v:qq)(r:Nat):Prop:=∃o,v.heap[r]? = lp o/\kindOf o=od
structure Hm(J:Loc->Prop)(lo:Nat)(w w':qq):Prop where
 size:w.heap.size<=w'.heap.size
 cell:∀a:zu,J (.cell a)->a.block<w.heap.size->w'.cell? a=w.cell? a
 obj:∀r o,J (.obj r)->w.heap[r]? = lp o->kindOf o=od->w'.heap[r]? = lp o
 row:∀i,i<w.heap.size->Vf J i->w'.heap[i]? = w.heap[i]?
 tape:w'.tape=w.tape
 same:Ed w w'
 fz:∀a:zu,J (.cell a)->a.block<lo->w'.frozen? a=w.frozen? a
 far:∀(i:Nat) (o:Obj),w'.heap[i]? = lp o->¬B7 o->w.heap[i]? = lp o
abbrev Ht(J:Loc->Prop)(w w':qq):Prop:=Hm J w.heap.size w w'
section
variable {P:me} {α:Type} {J:Loc->Prop} {w v:qq} {lo:Nat}
theorem EvJ.k{B:Nat}{e:p6}(h:EvJ J B e):RJ J B e:=by
 obtain⟨loc,wr,sy⟩:=e
 cases loc with
 | cell a=>exact h
 | obj r=>exact⟨af h.1,h.2⟩
 | mark m=>cases m <;> exact h
 | output=>exact h
 | goroutines=>exact h
theorem Hm.refl(w:qq):Hm J lo w w:=⟨aA _,fun _ _ _=>rfl,fun _ _ _ h _=>h,fun _ _ _=>rfl,rfl,Ed.refl _,fun _ _ _=>rfl,fun _ _ h _=>h⟩
theorem Ht.refl(w:qq):Ht J w w:=Hm.refl w
theorem Hm.trans{a b c:qq}(h:Hm J lo a b)(h':Hm J lo b c):Hm J lo a c:=
 ⟨aE h.size h'.size,fun x hx hl=>(h'.cell x hx (aB hl h.size)).trans (h.cell x hx hl),fun r o hr e hk=>h'.obj r o hr (h.obj r o hr e hk) hk,fun i hi hr=>(h'.row i (aB hi h.size) hr).trans (h.row i hi hr),h'.tape.trans h.tape,h.same.trans h'.same,fun x hx hl=>(h'.fz x hx hl).trans (h.fz x hx hl),fun i o e n=>h.far i o (h'.far i o e n) n⟩
theorem Ct.refl(w:qq):Ct J w w:=⟨rfl,fun _=>af rfl,rfl,rfl,rfl,rfl⟩
theorem Alike.cell{a:zu}{x:tj}(h:Alike J w v a.block)(hc:v.cell? a=lp x)(hJ:¬J (.cell a)):w.cell? a=lp x:=by
 obtain⟨i,j,sp⟩:=a
 unfold q7 at hc ⊢
 rcases h with e|⟨c,c',e,fz,hw,hv,hs,hj⟩|⟨_,o,o',hw,hv,h1,h2⟩|⟨⟨o4,h4,n4⟩,hv4⟩
 ·rw [←e];exact hc
 ·simp only at hc ⊢
  rw [hv] at hc
  rw [hw]
  simp only at hc ⊢
  cases sp with
  | some n=>simp at hc
  | none=>simp only [yk,aV,bQ] at hc ⊢;rw [←hj j hJ];exact hc
 ·simp only at hc
  rw [hv] at hc
  cases o' <;> simp_all [Obj.isChan]
 ·simp only at hc
  rw [hv4] at hc
  cases hc
theorem Alike.frozen{a:zu}(h:Alike J w v a.block):v.frozen? a=w.frozen? a:=by
 unfold cq
 rcases h with e|⟨c,c',e,fz,hw,hv,hs,hj⟩|⟨_,o,o',hw,hv,h1,h2⟩|⟨⟨o4,h4,n4⟩,hv4⟩
 ·rw [e]
 ·rw [hw,hv]
 ·rw [hw,hv]
  cases o <;> cases o' <;> simp_all [Obj.isChan]
 ·rw [h4,hv4]
  exact S98
theorem Alike.shape{r:Nat}(h:Alike J w v r):v.shape? r=w.shape? r:=by
 unfold World.shape?
 rcases h with e|⟨c,c',e,fz,hw,hv,hs,hj⟩|⟨_,o,o',hw,hv,h1,h2⟩|⟨⟨o4,h4,n4⟩,hv4⟩
 ·rw [e]
 ·rw [hw,hv];simp only [hs]
 ·rw [hw,hv]
  cases o <;> cases o' <;> simp_all [Obj.isChan]
 ·rw [h4,hv4]
  exact S98
theorem Sa{c c':Array tj}{j:Nat}{x:tj}(hs:c'.size=c.size){K:Nat->Prop}(h:∀j,K j->c'[j]? = c[j]?):∀i,K i->(c'.setIfInBounds j x)[i]? = (c.setIfInBounds j x)[i]?:=by
 intro i hi
 simp only [bF,hs,h i hi]
theorem Ct.setCell(h:Ct J w v)(a:zu)(x:tj):Ct J (w.setCell a x) (v.setCell a x):=by
 refine⟨by rw [size_setCell,size_setCell,h.size],fun i=>?_,h.os,h.output,h.tape,h.drawn⟩
 unfold Alike
 rw [heap_setCell,heap_setCell]
 by_cases hi:i=a.block
 ·subst hi
  rw [aQ rfl,aQ rfl]
  rcases h.like a.block with e|⟨c,c',e,fz,hw,hv,hs,hj⟩|⟨hJ,o,o',hw,hv,h1,h2⟩|⟨⟨o4,h4,n4⟩,hv4⟩
  ·exact af (by rw [e])
  ·refine o5 (af ⟨_,_,e,fz,by rw [hw];rfl,by rw [hv];rfl,?_,fun j hn=>?_⟩)
   ·split <;> simp [hs]
   ·split
    ·exact hj j hn
    ·exact Sa hs (K:=fun j=>¬J (.cell ⟨a.block,j,od⟩)) hj j hn
  ·exact Xx0
  ·exact Zqn
 ·rw [aO hi,aO hi]
  exact h.like i
theorem Fl(a:zu)(n:Nat):∃g:Nat×Nat->Nat×Nat,∀(v:qq) (i:Nat),(v.freeze a n).heap[i]? = if i=a.block then(v.heap[i]?).map (fun|.cells c e fz=>.cells c e (g fz)|o=>o) else v.heap[i]?:=by
 by_cases hn:n=0
 ·refine⟨id,fun v i=>?_⟩
  have e:(fun o=>match o with|Obj.cells c e fz=>Obj.cells c e (id fz)|o=>o)=id:=by funext o;cases o <;> rfl
  rw [e]
  simp [World.freeze,hn]
 ·refine⟨fun fz=>if fz.1 == fz.2 then(a.off,a.off+n) else(min fz.1 a.off,max fz.2 (a.off+n)),fun v i=>?_⟩
  unfold World.freeze
  simp only [hn,bQ,bJ]
  by_cases h:a.block=i
  ·subst h
   simp only [bC]
   congr 1
   funext o
   cases o <;> rfl
  ·simp [h,bW h]
theorem Ct.freeze(h:Ct J w v)(a:zu)(n:Nat):Ct J (w.freeze a n) (v.freeze a n):=by
 obtain⟨g,e⟩:=Fl a n
 obtain⟨r1,r2,r3,r4⟩:=Ek w a n
 obtain⟨q1,q2,q3,q4⟩:=Ek v a n
 refine⟨by rw [F8,F8,h.size],fun i=>?_,by rw [q3,r3,h.os],by rw [q4,r4,h.output],by rw [q1,r1,h.tape],by rw [q2,r2,h.drawn]⟩
 unfold Alike
 rw [e,e]
 by_cases hi:i=a.block
 ·subst hi
  rw [aQ rfl,aQ rfl]
  rcases h.like a.block with e|⟨c,c',e,fz,hw,hv,hs,hj⟩|⟨hJ,o,o',hw,hv,h1,h2⟩|⟨⟨o4,h4,n4⟩,hv4⟩
  ·exact af (by rw [e])
  ·exact o5 (af ⟨c,c',e,g fz,by rw [hw];rfl,by rw [hv];rfl,hs,hj⟩)
  ·exact Xx0
  ·exact Zqn
 ·rw [aO hi,aO hi]
  exact h.like i
theorem Ct.push(h:Ct J w v)(o:Obj):Ct J { w with heap:=w.heap.push o } { v with heap:=v.heap.push o }:=by
 refine⟨by simp [h.size],fun i=>?_,h.os,h.output,h.tape,h.drawn⟩
 unfold Alike
 simp only [En,h.size]
 by_cases hi:i=w.heap.size
 ·exact af (by rw [aQ hi,aQ hi])
 ·rw [aO hi,aO hi]
  exact h.like i
theorem Ct.setObj(h:Ct J w v)(r:Nat)(o:Obj):Ct J { w with heap:=w.heap.setIfInBounds r o } { v with heap:=v.heap.setIfInBounds r o }:=by
 refine⟨by simp [h.size],fun i=>?_,h.os,h.output,h.tape,h.drawn⟩
 unfold Alike
 simp only [bF,h.size]
 by_cases hi:r=i
 ·exact af (by rw [aQ hi,aQ hi])
 ·rw [aO hi,aO hi]
  exact h.like i
theorem Ct.draw(h:Ct J w v)(m:Nat):Ct J { w with drawn:=w.drawn+m } { v with drawn:=v.drawn+m }:=⟨h.size,h.like,h.os,h.output,h.tape,by simp only [h.drawn]⟩
theorem Ct.at(h:Ct J w v)(m:Nat):Ct J (w.at m) (v.at m):=⟨h.size,h.like,h.os,h.output,h.tape,rfl⟩
theorem NF.setCell(h:NF v)(a:zu)(x:tj):NF (v.setCell a x):=fun i o ho=>bG fun hn=>hn (h i o (Kq i o ho (fun hk=>hn (af hk))))
theorem NF.freeze(h:NF v)(a:zu)(n:Nat):NF (v.freeze a n):=fun i o ho=>bG fun hn=>hn (h i o (Mk i o ho (fun hk=>hn (af hk))))
theorem NF.push(h:NF v){o:Obj}(h':B7 o):NF { v with heap:=v.heap.push o }:=fun i x ho=>bG fun hn=>hn (h i x (Tx h' i x ho (fun hk=>hn (af hk))))
theorem NF.setObj(h:NF v){o:Obj}(h':B7 o)(r:Nat):NF { v with heap:=v.heap.setIfInBounds r o }:=fun i x ho=>bG fun hn=>hn (h i x (Pl h' i x ho (fun hk=>hn (af hk))))
theorem O3{a:zu}(hJ:¬J (.cell a))(x:tj):Hm J lo w (w.setCell a x):=by
 refine⟨dX (size_setCell w a x).symm,fun b hb _=>?_,fun r o hr ho hk=>?_,fun i hi hr=>?_,rfl,⟨rfl,rfl⟩,fun b _ _=>World.frozen?_setCell ..,Kq⟩
 ·unfold q7
  rw [heap_setCell]
  by_cases hi:b.block=a.block
  ·rw [aQ hi]
   cases ho:w.heap[b.block]? with
   | none=>rfl
   | some o=>
    cases o <;> first|rfl|skip
    rename_i c e fz
    simp only [bA]
    cases hs:b.spot with
    | some n=>rfl
    | none=>
     simp only [yk,aV,bQ]
     cases hsa:a.spot with
     | some n=>rfl
     | none=>
      simp only [yk,aV,bQ]
      have Cu:a.off≠b.off:=fun e=>hJ (by
       have:a=b:=by
        obtain⟨a1,a2,a3⟩:=a
        obtain⟨b1,b2,b3⟩:=b
        simp only at hi e hs hsa
        subst hi e hs hsa
        rfl
       rw [this];exact hb)
      rw [aD Cu]
  ·rw [aO hi]
 ·rw [heap_setCell]
  split
  ·rw [ho]
   cases o <;> first|rfl|cases hk
  ·exact ho
 ·rw [heap_setCell]
  split
  ·rename_i e
   cases hs:a.spot with
   | none=>
    exfalso
    apply hJ
    obtain⟨a1,a2,a3⟩:=a
    simp only at hs e
    subst hs e
    exact hr a2
   | some n=>
    cases ho:w.heap[i]? with
    | none=>rfl
    | some o=>cases o <;> simp
  ·rfl
theorem P9{a:zu}(n:Nat)(hr:Vf J a.block->Lp w a.block)(hz:lo<=a.block∨Lp w a.block):Hm J lo w (w.freeze a n):=by
 obtain⟨g,e⟩:=Fl a n
 obtain⟨r1,r2,r3,r4⟩:=Ek w a n
 refine⟨dX (F8 w a n).symm,fun b hb _=>?_,fun r o hr ho hk=>?_,fun i hi hj=>?_,r1,⟨r3,r4⟩,fun b _ hb=>?_,Mk⟩
 ·unfold q7
  rw [e]
  by_cases hi:b.block=a.block
  ·rw [aQ hi]
   cases ho:w.heap[b.block]? with
   | none=>rfl
   | some o=>cases o <;> rfl
  ·rw [aO hi]
 ·rw [e]
  split
  ·rw [ho]
   cases o <;> first|rfl|cases hk
  ·exact ho
 ·rw [e]
  split
  ·rename_i ei
   subst ei
   obtain⟨o,ho,hk⟩:=hr hj
   rw [ho]
   cases o <;> first|rfl|cases hk
  ·rfl
 ·unfold cq
  rw [e]
  by_cases hi:b.block=a.block
  ·rw [aQ hi]
   rcases hz with hz|⟨o,ho,hk⟩
   ·omega
   ·rw [hi,ho]
    cases o <;> first|rfl|cases hk
  ·rw [aO hi]
theorem Ul(hlo:lo<=w.heap.size){o:Obj}(E6:B7 o):Hm J lo w { w with heap:=w.heap.push o }:=by
 have old:∀(i:Nat) (x:Obj),w.heap[i]? = lp x->(w.heap.push o)[i]? = lp x:=fun i x h=>by
  have:=(aF.1 h).1
  rw [En,aO Ab]
  exact h
 refine⟨Ae,fun b hb hl=>?_,fun r x hr ho hk=>old r x ho,fun i hi _=>?_,rfl,⟨rfl,rfl⟩,fun b _ hb=>?_,Tx E6⟩
 ·unfold q7
  simp only [En]
  rw [aO Ab]
 ·simp only [En]
  rw [aO Ab]
 ·unfold cq
  simp only [En]
  rw [aO Ab]
theorem Qa{r:Nat}{y:Obj}(hy:w.heap[r]? = lp y)(hk:kindOf y=od)(hJ:¬J (.obj r))(hr:¬Vf J r){o:Obj}(ho:kindOf o=od)(E6:B7 o):Hm J lo w { w with heap:=w.heap.setIfInBounds r o }:=by
 refine⟨Ae,fun b hb _=>?_,fun i x hi hx hk'=>?_,fun i hi hj=>?_,rfl,⟨rfl,rfl⟩,fun b _ _=>?_,Pl E6⟩
 ·unfold q7
  refine M5k ?_
  by_cases h:r=b.block
  ·have Cg:=(aF.1 hy).1
   rw [aQ h,aQ Cg]
   rw [←h,hy]
   have no:∀z:Obj,kindOf z=od->(match lp z with|some (Obj.cells c elem frozen)=>if b.spot.isSome=s7 then od else c[b.off]?|_=>od)=(od:Option tj):=fun z hz=>by cases z <;> first|rfl|(simp [kindOf] at hz)
   exact(no o ho).trans (no y hk).symm
  ·rw [aO h]
 ·refine M5k ?_
  rw [aO (fun(e:r=i)=>hJ (e▸hi))]
  exact hx
 ·refine M5k ?_
  rw [aO (fun(e:r=i)=>hr (e▸hj))]
 ·unfold cq
  refine M5k ?_
  by_cases h:r=b.block
  ·have Cg:=(aF.1 hy).1
   rw [aQ h,aQ Cg]
   rw [←h,hy]
   have no:∀z:Obj,kindOf z=od->(match lp z with|some (Obj.cells c elem (lo,hi))=>decide (lo<=b.off) && decide (b.off<hi)|_=>vp)=vp:=fun z hz=>by cases z <;> first|rfl|(simp [kindOf] at hz)
   exact(no o ho).trans (no y hk).symm
  ·rw [aO h]
theorem Po(m:Nat):Hm J lo w { w with drawn:=m }:=⟨aA _,fun _ _ _=>rfl,fun _ _ _ h _=>h,fun _ _ _=>rfl,rfl,⟨rfl,rfl⟩,fun _ _ _=>rfl,fun _ _ h _=>h⟩
theorem Uk(m:Nat):Ht J w (w.at m):=Po m
theorem La:∀(s:Sem α) (v:qq) (es:Array p6) (e:p6),e∈es->e∈(s.runT P v es).2:=by
 intro s v es e he
 rw [Sem.runT_eq]
 show e∈s.events P v es
 rw [Sem.events_acc]
 exact dM.2 (af he)
theorem TS{a:zu}(h:NF v)(hc:v.cell? a=od)(b:Bool):∃y,v.farLoad P a b=.error y:=let⟨x,e,_⟩:=Li (P:=P) h a b;⟨x,e⟩
theorem OM{a:zu}{x:tj}(h:NF v)(b:Bool):∃y,v.farStore P a x b=.error y:=let⟨y,e,_⟩:=Nh (P:=P) h a x b;⟨y,e⟩
theorem Fb.not{r:Nat}(h:Fb v r)(h':Lp v r):False:=by
 obtain⟨c,e,fz,h⟩:=h
 obtain⟨o,ho,hk⟩:=h'
 rw [h] at ho
 obtain rfl:=aC ho
 cases hk
theorem Fb.setCell{r:Nat}(h:Fb v r)(a:zu)(x:tj):Fb (v.setCell a x) r:=by
 obtain⟨c,e,fz,h⟩:=h
 unfold Fb
 rw [heap_setCell]
 split
 ·rw [h];exact⟨_,_,_,rfl⟩
 ·exact⟨_,_,_,h⟩
theorem Fb.freeze{r:Nat}(h:Fb v r)(a:zu)(n:Nat):Fb (v.freeze a n) r:=by
 obtain⟨g,e'⟩:=Fl a n
 obtain⟨c,e,fz,h⟩:=h
 unfold Fb
 rw [e']
 split
 ·rw [h];exact⟨_,_,_,rfl⟩
 ·exact⟨_,_,_,h⟩
theorem Fb.lt{r:Nat}(h:Fb v r):r<v.heap.size:=by
 obtain⟨c,e,fz,h⟩:=h
 exact(aF.1 h).1
theorem Fb.push{r:Nat}(h:Fb v r)(o:Obj):Fb { v with heap:=v.heap.push o } r:=by
 have:=h.lt
 obtain⟨c,e,fz,h⟩:=h
 refine⟨c,e,fz,?_⟩
 simp only [En]
 rw [aO Ab]
 exact h
theorem Fb.setObj{r q:Nat}(h:Fb v r)(hq:q≠r)(o:Obj):Fb { v with heap:=v.heap.setIfInBounds q o } r:=by
 obtain⟨c,e,fz,h⟩:=h
 refine⟨c,e,fz,?_⟩
 refine M5k ?_
 rw [aO hq]
 exact h
theorem Lp.setCell{r:Nat}(h:Lp v r)(a:zu)(x:tj):Lp (v.setCell a x) r:=by
 obtain⟨o,ho,hk⟩:=h
 refine⟨o,?_,hk⟩
 rw [heap_setCell]
 split
 ·rw [ho];cases o <;> first|rfl|cases hk
 ·exact ho
theorem Lp.freeze{r:Nat}(h:Lp v r)(a:zu)(n:Nat):Lp (v.freeze a n) r:=by
 obtain⟨g,e⟩:=Fl a n
 obtain⟨o,ho,hk⟩:=h
 refine⟨o,?_,hk⟩
 rw [e]
 split
 ·rw [ho];cases o <;> first|rfl|cases hk
 ·exact ho
theorem Lp.push{r:Nat}(h:Lp v r)(o:Obj):Lp { v with heap:=v.heap.push o } r:=by
 obtain⟨x,hx,hk⟩:=h
 have:=(aF.1 hx).1
 refine⟨x,?_,hk⟩
 simp only [En]
 rw [aO Ab]
 exact hx
theorem Lp.setObj{r:Nat}(h:Lp v r)(q:Nat){o:Obj}(hk:kindOf o=od):Lp { v with heap:=v.heap.setIfInBounds q o } r:=by
 obtain⟨x,hx,hk'⟩:=h
 unfold Lp
 refine M5k ?_
 by_cases e:q=r
 ·have:=(aF.1 hx).1
  subst e
  rw [aQ rfl,aQ this]
  exact⟨o,rfl,hk⟩
 ·rw [aO e]
  exact⟨x,hx,hk'⟩
theorem Ct.nrow(h:Ct J w v){r:Nat}(hr:Lp v r):Lp w r:=by
 obtain⟨o,ho,hk⟩:=hr
 rcases h.like r with e|⟨c,c',e,fz,hw,hv,_⟩|⟨_,x,x',hw,hv,h1,h2⟩|⟨⟨o4,h4,n4⟩,hv4⟩
 ·exact⟨o,e▸ho,hk⟩
 ·rw [hv] at ho;obtain rfl:=aC ho;cases hk
 ·refine⟨x,hw,?_⟩
  cases x <;> first|rfl|cases h1
 ·refine⟨o4,h4,?_⟩
  exact S98
theorem IM{Q:α->Prop}:∀(s:Sem α) (A:Nat->Prop) (lo:Nat) (w v:qq) (es:Array p6) (a:α) (v':qq) (Fi:Array p6),Ev P Q s A->(∀i,Vf J i->i<lo/\Fb v i)->lo<=v.heap.size->(∀r,A r->lo<=r∨Lp v r)->NF v->Ct J w v->s.runT P v es=(.ok a v',Fi)->(∃B,∀e∈Fi,EvJ J B e) ->
  ∃w',s.runT P w es=(.ok a w',Fi)/\Ct J w' v'/\NF v'/\Hm J lo w w'/\Hm J lo v v':=by
 intro s
 induction s with
 | pure a=>
  intro A lo w v es b v' Fi hT hlo Di hA hn hs hr he
  simp only [Sem.runT,bH,Result.ok.injEq] at hr
  obtain⟨⟨rfl,rfl⟩,rfl⟩:=hr
  exact⟨w,rfl,hs,hn,.refl _,.refl _⟩
 | load m a k ih=>
  intro A lo w v es b v' Fi hT hlo Di hA hn hs hr he
  cases hc:v.cell? a with
  | none=>
   obtain⟨y,hy⟩:=TS (P:=P) hn hc (m == .atomic)
   simp only [Sem.runT,hc,hy] at hr
   cases hr
  | some x=>
   simp only [Sem.runT,hc] at hr
   have hJ:¬J (.cell a):=by
    obtain⟨B,he⟩:=he
    have h1:=La (P:=P) (k x) v (es.push ⟨.cell a,vp,m == .atomic⟩) ⟨.cell a,vp,m == .atomic⟩ Ae
    rw [hr] at h1
    exact(he _ h1).1
   obtain⟨w',h1,h2⟩:=ih x A lo w v _ b v' Fi (hT x) hlo Di hA hn hs hr he
   exact⟨w',by simp only [Sem.runT,(hs.like _).cell hc hJ];exact h1,h2⟩
 | store m a x k ih=>
  intro A lo w v es b v' Fi hT hlo Di hA hn hs hr he
  cases hc:v.cell? a with
  | none=>
   exfalso
   obtain⟨y,hy⟩:=OM (P:=P) (a:=a) (x:=x) hn (m == .atomic)
   cases x <;> simp only [Sem.runT,hc,hy] at hr <;> cases hr
  | some y=>
   cases hf:v.frozen? a with
   | true=>
    exfalso
    cases x <;> simp only [Sem.runT,hc,hf,bC] at hr <;> cases hr
   | false=>
    have key:(Sem.store m a x k).runT P v es=k.runT P (v.setCell a x) (es.push ⟨.cell a,s7,m == .atomic⟩)/\(∀w,w.cell? a=lp y->w.frozen? a=vp->(Sem.store m a x k).runT P w es=k.runT P (w.setCell a x) (es.push ⟨.cell a,s7,m == .atomic⟩)):=by
     cases x <;> first|(simp only [Sem.runT] at hr;cases hr;done)|exact⟨by simp only [Sem.runT,hc,hf];rfl,fun w h1 h2=>by simp only [Sem.runT,h1,h2];rfl⟩
    rw [key.1] at hr
    have hJ:¬J (.cell a):=by
     obtain⟨B,he⟩:=he
     have h1:=La (P:=P) k (v.setCell a x) (es.push ⟨.cell a,s7,m == .atomic⟩) ⟨.cell a,s7,m == .atomic⟩ Ae
     rw [hr] at h1
     exact(he _ h1).1
    obtain⟨w',h1,h2,h3,h4,h5⟩:=ih A lo (w.setCell a x) (v.setCell a x) _ b v' Fi hT (fun i hi=>⟨(hlo i hi).1,(hlo i hi).2.setCell a x⟩) (by rw [size_setCell];exact Di) (fun r hr=>(hA r hr).imp id fun h=>h.setCell a x) (hn.setCell a x) (hs.setCell a x) hr he
    exact⟨w',(key.2 w ((hs.like _).cell hc hJ) ((hs.like _).frozen.symm.trans hf)).trans h1,h2,h3,(O3 hJ x).trans h4,(O3 hJ x).trans h5⟩
 | new o k ih=>
  intro A lo w v es b v' Fi hT hlo Di hA hn hs hr he
  simp only [Sem.runT] at hr
  obtain⟨w',h1,h2,h3,h4,h5⟩:=ih _ _ lo { w with heap:=w.heap.push o } _ _ b v' Fi (hT.2 _) (fun i hi=>⟨(hlo i hi).1,(hlo i hi).2.push o⟩) Ag (fun r hr=>hr.elim (fun h=>(hA r h).imp id fun h=>h.push o) fun h=>af (h▸Di)) (hn.push hT.1) (hs.push o) hr he
  exact⟨w',by simp only [Sem.runT,←hs.size];exact h1,h2,h3,(Ul (hs.size▸Di) hT.1).trans h4,(Ul Di hT.1).trans h5⟩
 | shape r k ih=>
  intro A lo w v es b v' Fi hT hlo Di hA hn hs hr he
  simp only [Sem.runT] at hr
  rcases hT with hT|⟨hT,_⟩
  ·exfalso
   obtain⟨h',v1,h1,_⟩:=Ej.run (P:=P) _ v (hT (v.shape? r)) hn
   have:=aG Prod.fst hr
   rw [Sem.runT_fst,h1] at this
   cases this
  ·obtain⟨w',h1,h2⟩:=ih _ A lo w v _ b v' Fi (hT _) hlo Di hA hn hs hr he
   exact⟨w',by simp only [Sem.runT,←(hs.like r).shape];exact h1,h2⟩
 | freeze a n k ih=>
  intro A lo w v es b v' Fi hT hlo Di hA hn hs hr he
  simp only [Sem.runT] at hr
  have fr:¬Vf J a.block:=fun h=>(hA _ hT.1).elim (fun h'=>absurd (hlo _ h).1 Ab) (hlo _ h).2.not
  obtain⟨w',h1,h2,h3,h4,h5⟩:=ih A lo (w.freeze a n) _ _ b v' Fi hT.2 (fun i hi=>⟨(hlo i hi).1,(hlo i hi).2.freeze a n⟩) (by rw [F8];exact Di) (fun r hr=>(hA r hr).imp id fun h=>h.freeze a n) (hn.freeze a n) (hs.freeze a n) hr he
  exact⟨w',by simp only [Sem.runT];exact h1,h2,h3,(P9 n (fun h=>absurd h fr) ((hA _ hT.1).imp id hs.nrow)).trans h4,(P9 n (fun h=>absurd h fr) (hA _ hT.1)).trans h5⟩
 | frozen a k ih=>
  intro A lo w v es b v' Fi hT hlo Di hA hn hs hr he
  simp only [Sem.runT] at hr
  obtain⟨w',h1,h2⟩:=ih _ A lo w v _ b v' Fi (hT _) hlo Di hA hn hs hr he
  exact⟨w',by simp only [Sem.runT,←(hs.like a.block).frozen];exact h1,h2⟩
 | getObj r k ih=>
  intro A lo w v es b v' Fi hT hlo Di hA hn hs hr he
  have key:∃o,v.heap[r]? = lp o/\(∀c e fz,o≠.cells c e fz)/\(k o).runT P v (es.push ⟨.obj r,vp,o.isChan⟩)=(.ok b v',Fi):=by
   cases ho:v.heap[r]? with
   | none=>simp only [Sem.runT,ho] at hr;cases hr
   | some o=>cases o <;> simp only [Sem.runT,ho] at hr <;> first|(cases hr;done)|exact⟨_,rfl,Ae,hr⟩
  obtain⟨o,ho,hoc,hr⟩:=key
  have hJ:¬J (.obj r):=by
   obtain⟨B,he⟩:=he
   have h1:=La (P:=P) (k o) v (es.push ⟨.obj r,vp,o.isChan⟩) ⟨.obj r,vp,o.isChan⟩ Ae
   rw [hr] at h1
   exact(he _ h1).1
  have hw:w.heap[r]? = lp o∨∃o4,w.heap[r]? = lp o4/\¬B7 o4/\o=dead:=by
   rcases hs.like r with e|⟨c,c',e,fz,_,hv,_⟩|⟨h1,_⟩|⟨⟨o4,h4,n4⟩,hv4⟩
   ·exact af (by rw [←e];exact ho)
   ·rw [ho] at hv;exact absurd (aC hv) (hoc _ _ _)
   ·exact absurd h1 hJ
   ·exact o5 ⟨o4,h4,n4,aC (ho.symm.trans hv4)⟩
  obtain⟨w',h1,h2⟩:=ih o _ lo w v _ b v' Fi (hT.1 o) hlo Di (fun x hx=>hx.elim (hA x) fun h=>o5 ⟨o,h.1▸ho,h.2.2.2⟩) hn hs hr he
  rcases hw with hw|⟨o4,hw,n4,rfl⟩
  ·refine⟨w',?_,h2⟩
   cases o <;> first|exact absurd rfl (hoc _ _ _)|(simp only [Sem.runT,hw];exact h1)
  ·rcases hT.2 with hd|hi
   ·exfalso
    obtain⟨h',v1,e1,_⟩:=Ej.run (P:=P) (k dead) v (hd ⟨0,0,lp 0⟩ 0) hn
    have:=aG Prod.fst hr
    rw [Sem.runT_fst,e1] at this
    cases this
   ·refine⟨w',?_,h2⟩
    have hk:=hi o4 (af n4)
    cases o4 <;> first|exact absurd trivial n4|(simp only [Sem.runT,hw,hk];exact h1)
 | setObj r o k ih=>
  intro A lo w v es b v' Fi hT hlo Di hA hn hs hr he
  have key:∃y,v.heap[r]? = lp y/\(∀c e fz,y≠.cells c e fz)/\k.runT P { v with heap:=v.heap.setIfInBounds r o } (es.push ⟨.obj r,s7,o.isChan⟩)=(.ok b v',Fi):=by
   cases ho:v.heap[r]? with
   | none=>simp only [Sem.runT,ho] at hr;cases hr
   | some y=>cases y <;> simp only [Sem.runT,ho] at hr <;> first|(cases hr;done)|exact⟨_,rfl,Ae,hr⟩
  obtain⟨y,hy,hyc,hr⟩:=key
  have hJ:¬J (.obj r):=by
   obtain⟨B,he⟩:=he
   have h1:=La (P:=P) k { v with heap:=v.heap.setIfInBounds r o } (es.push ⟨.obj r,s7,o.isChan⟩) ⟨.obj r,s7,o.isChan⟩ Ae
   rw [hr] at h1
   exact(he _ h1).1
  obtain⟨y',hw,hyc'⟩:∃y',w.heap[r]? = lp y'/\∀c e fz,y'≠.cells c e fz:=by
   rcases hs.like r with e|⟨c,c',e,fz,_,hv,_⟩|⟨h1,_⟩|⟨⟨o4,h4,n4⟩,hv4⟩
   ·exact⟨y,by rw [←e];exact hy,hyc⟩
   ·rw [hy] at hv;exact absurd (aC hv) (hyc _ _ _)
   ·exact absurd h1 hJ
   ·exact⟨o4,h4,fun c e fz h=>n4 (by rw [h];trivial)⟩
  have hrj:¬Vf J r:=fun h=>(hA _ hT.1.1).elim (fun h'=>absurd (hlo _ h).1 Ab) (hlo _ h).2.not
  obtain⟨w',h1,h2,h3,h4,h5⟩:=ih A lo { w with heap:=w.heap.setIfInBounds r o } _ _ b v' Fi hT.2 (fun i hi=>⟨(hlo i hi).1,(hlo i hi).2.setObj (fun(e:r=i)=>hrj (e▸hi)) o⟩) (by simpa using Di) (fun x hx=>(hA x hx).imp id fun h=>h.setObj r hT.1.2.2) (hn.setObj hT.1.2.1 r) (hs.setObj r o) hr he
  have hyk:kindOf y=od:=by cases y <;> first|exact absurd rfl (hyc _ _ _)|rfl
  have hyk':kindOf y'=od:=by cases y' <;> first|exact absurd rfl (hyc' _ _ _)|rfl
  have E6:kindOf o=od:=hT.1.2.2
  refine⟨w',?_,h2,h3,(Qa hw hyk' hJ hrj E6 hT.1.2.1).trans h4,(Qa hy hyk hJ hrj E6 hT.1.2.1).trans h5⟩
  cases y' <;> first|exact absurd rfl (hyc' _ _ _)|(simp only [Sem.runT,hw];exact h1)
 | choose q k ih=>
  intro A lo w v es b v' Fi hT hlo Di hA hn hs hr he
  by_cases hq:q.forced=s7
  ·simp only [Sem.runT,hq,bC] at hr
   obtain⟨w',h1,h2⟩:=ih _ A lo w v _ b v' Fi (hT _) hlo Di hA hn hs hr he
   exact⟨w',by simp only [Sem.runT,hq,bC];exact h1,h2⟩
  ·simp only [Sem.runT,hq,bQ] at hr
   obtain⟨w',h1,h2,h3,h4,h5⟩:=ih _ A lo { w with drawn:=w.drawn+1 } { v with drawn:=v.drawn+1 } _ b v' Fi (hT _) hlo Di hA hn (hs.draw 1) hr he
   exact⟨w',by
    have e1:(Sem.choose q k).runT P w es=(k (q.cut (w.tape w.drawn q))).runT P { w with drawn:=w.drawn+1 } es:=by simp only [Sem.runT,hq];rfl
    rw [e1,←hs.tape,←hs.drawn]
    rw [hs.drawn,hs.tape] at *
    exact h1,h2,h3,(Po _).trans h4,(Po _).trans h5⟩
 | sys c k ih=>exact fun A lo w v es b v' Fi hT=>hT.elim
 | program k ih=>
  intro A lo w v es b v' Fi hT hlo Di hA hn hs hr he
  exact ih P A lo w v es b v' Fi hT hlo Di hA hn hs hr he
 | mark m k ih=>
  intro A lo w v es b v' Fi hT hlo Di hA hn hs hr he
  simp only [Sem.runT] at hr
  obtain⟨w',h1,h2⟩:=ih A lo w v _ b v' Fi hT.2 hlo Di hA hn hs hr he
  exact⟨w',by simp only [Sem.runT];exact h1,h2⟩
 | halt h=>
  intro A lo w v es b v' Fi hT hlo Di hA hn hs hr he
  simp only [Sem.runT] at hr
  cases hr
theorem Ja{Q:α->Prop}(s:Sem α)(A:Nat->Prop)(lo:Nat)(w v:qq)(es:Array p6)(a:α)(v':qq)(Fi:Array p6)(hT:Ev P Q s A)(hlo:∀i,Vf J i->i<lo/\Fb v i)(Di:v.heap.size<=lo)(hA:∀r,A r->lo<=r∨Lp v r)(hn:NF v)(hs:Ct J w v)(hr:s.runT P v es=(.ok a v',Fi))(he:∃B,∀e∈Fi,EvJ J B e) :
  ∃w',s.runT P w es=(.ok a w',Fi)/\Ct J w' v'/\NF v'/\Ht J w w'/\Ht J v v':=by
 obtain⟨w',h1,h2,h3,h4,h5⟩:=IM s A v.heap.size w v es a v' Fi hT (fun i hi=>⟨(hlo i hi).2.lt,(hlo i hi).2⟩) (aA _) (fun r hr=>(hA r hr).imp (fun h=>aE Di h) id) hn hs hr he
 exact⟨w',h1,h2,h3,by rw [hs.size] at h4;exact h4,h5⟩
end
section
variable {P:me} {α β:Type} {Q:β->Prop} {A:Nat->Prop}
theorem T.shapeBind{r:Nat}{f:Option (s8×Nat)->Sem β}(hf:∀x,T P (f x))(hi:∀e n,f (lp (e,n))=f (lp (e,0))):T P (shape r >>= f):=
 fun A=>o5 ⟨fun x=>hf x A,o5 (o5 hi)⟩
theorem T.getObjBind{r:Nat}{f:Obj->Sem β}(hf:∀x,T P (f x))(hd:∀a t,Ej P (fun _=>False) (f (.view a t))):T P (getObj r >>= f):=
 fun A=>⟨fun x=>hf x _,af hd⟩
theorem T.getObjBind'{r:Nat}{f:Obj->Sem β}(hf:∀x,T P (f x))(hd:∀o,¬B7 o∨o.isChan=s7->f o=f dead):T P (getObj r >>= f):=
 fun A=>⟨fun x=>hf x _,o5 hd⟩
theorem T.numberAt(r:Nat):T P (numberAt r):=by
 unfold Go.numberAt
 refine T.shapeBind (fun x=>?_) (fun e n=>rfl)
 split
 ·exact T.pure _
 ·refine T.getObjBind' (fun o=>?_) (fun o ho=>?_)
  ·cases o <;> exact T.pure _
  ·cases o <;> first|rfl|(rcases ho with ho|ho <;> first|exact absurd trivial ho|cases ho)
theorem T.behindNumber(a:zu):T P (behindNumber a):=T.then (T.numberAt _) fun _=>T.pure _
theorem T.asNumber(a:zu)(l:Bool):T P (asNumber a l):=T.then (T.newObj trivial) fun _=>T.pure _
theorem T.viewThen{r:Nat}{f:Option (zu×s8)->Sem β}(hf:T P (f od))(hd:∀x,Ej P (fun _=>False) (f (lp x)))(hs:∀x,T P (f (lp x))):T P (viewAt r >>= f):=by
 unfold Go.viewAt
 rw [bind_assoc]
 refine T.shapeBind (fun x=>?_) (fun e n=>rfl)
 split
 ·rw [pure_bind];exact hf
 ·rw [bind_assoc]
  refine T.getObjBind (fun o=>?_) (fun a t=>?_)
  ·cases o <;> first|(rw [pure_bind];exact hf)|(rw [pure_bind];exact hs _)
  ·exact hd _
theorem T.noView(a:zu):T P (noView a):=by
 unfold Go.noView
 refine T.viewThen ?_ (fun x=>?_) (fun x=>?_)
 ·exact T.pure _
 ·exact trivial
 ·exact T.unsafeP _
theorem T.byteOf(a:zu):T P (byteOf a):=by
 unfold Go.byteOf
 split
 ·exact T.pure _
 ·refine T.then T.program fun p=>T.then (T.noView _) fun _=>T.shapeBind (fun x=>?_) (fun e n=>rfl)
  split
  ·dsimp only
   split
   ·exact T.pure _
   ·exact Wie
  ·exact T.stuck _
theorem T.partAt(a:zu)(n m:Nat):T P (partAt a n m):=by
 unfold Go.partAt
 exact T.then (T.byteOf _) fun _=>T.then (T.byteOf _) fun _=>T.pure _
theorem T.fieldPlace(a:zu)(f:Field):T P (fieldPlace a f):=by
 unfold Go.fieldPlace
 refine T.then (T.sizeOf _) fun n=>?_
 split
 ·exact T.partAt _ _ _
 ·exact T.pure _
theorem T.fieldAt(s:s8)(a:tj)(f:Nat):T P (Instr.fieldAt s a f):=by
 unfold Instr.fieldAt
 refine T.then (T.underlying _) fun d=>?_
 split
 ·split
  ·exact T.then (T.sureAddr _) fun _=>T.then (T.fieldPlace _ _) fun _=>T.pure _
  ·exact T.stuck _
 ·exact T.stuck _
theorem T.twoPlaces(a b:zu):T P (Op.twoPlaces a b):=by
 unfold Op.twoPlaces
 repeat' first|(with_reducible first|exact T.pure _|exact T.observed|exact T.program|exact T.byteOf _|refine T.then ?_ (fun _=>?_))|dsimp only|split
theorem T.addrSub(k:ll)(a b:zu):T P (Op.addrSub k a b):=by
 unfold Op.addrSub
 exact T.then (T.twoPlaces _ _) fun _=>T.pure _
theorem T.addrCmp(op:eh)(a b:zu):T P (Op.addrCmp op a b):=by
 unfold Op.addrCmp
 refine T.then (T.twoPlaces _ _) fun x=>?_
 obtain⟨x,y⟩:=x
 cases op <;> first|exact T.pure _|exact T.observed
theorem T.addrMod(k:ll)(a:zu)(n:Int):T P (Op.addrMod k a n):=by
 unfold Op.addrMod
 refine T.shapeBind (fun x=>?_) (fun e n=>rfl)
 repeat' first|(with_reducible first|exact T.pure _|exact T.observed|exact T.typeInfo _|exact T.byteOf _|refine T.then ?_ (fun _=>?_))|dsimp only|split
theorem Qu(d:Nat)(e:s8)(off:Nat)(n:Int):jh P d e 0 off n=od:=by
 unfold jh
 simp only [eH]
 split
 ·rfl
 ·cases byteOfCell P d e (off % P.cellsOf e) with
  | none=>rfl
  | some x=>
   simp only [Option.bind_eq_bind,cW]
   split
   ·rfl
   ·rename_i h
    simp at h
    omega
theorem T.unsafeAdd(t:s8)(x y:tj):T P (zq #[] t #[x,y]):=by
 unfold zq
 cases x with
 | pointer ptr=>
  dsimp only
  refine T.then (T.asInt _) fun n=>?_
  cases ptr with
  | none=>repeat' first|(with_reducible first|exact T.pure _|exact T.unsafeP _|refine T.then ?_ (fun _=>?_))|dsimp only|split
  | some a=>
   dsimp only
   have key:T P (do
     let lp (e,cells) ←shape a.block|Go.unsupported (.unsafePointer "Add")
     let p ←Go.program
     match jh p p.depth e (cells / p.cellsOf e) a.off n with
     | some off=>Pure.pure (Value.pointer (lp { a with off }))
     | none=>Go.unsupported (.unsafePointer "Add")):=by
    refine fun A=>o5 ⟨fun x=>?_,o5 (af fun e=>?_)⟩
    ·refine(?_:T P _) A
     dsimp only [Sem.bind]
     repeat' first|(with_reducible first|exact T.pure _|exact T.unsafeP _|exact T.program|refine T.then ?_ (fun _=>?_))|dsimp only|split
    ·show Ej P (fun _=>False) (match jh P P.depth e (0 / P.cellsOf e) a.off n with|some off=>_|none=>_)
     rw [Nat.zero_div,Qu]
     exact trivial
   split
   ·refine T.viewThen ?_ (fun x=>?_) (fun x=>?_)
    ·exact T.pure _
    ·exact trivial
    ·exact T.then (T.unsafeP _) fun _=>T.pure _
   ·split
    ·exact T.then (T.unsafeP _) fun _=>key
    ·exact key
 | _=>exact T.stuck _
theorem T.movedNumber(t:s8)(x y:tj):T P (movedNumber t x y):=by
 unfold Go.movedNumber
 repeat' first|(with_reducible first|exact T.pure _|exact T.underlying _|exact T.unsafeP _|exact T.behindNumber _|exact T.unsafeAdd _ _ _|exact T.asNumber _ _|refine T.then ?_ (fun _=>?_))|dsimp only|split
theorem T.movedPointer(t:s8)(x y:tj):T P (movedPointer t x y):=by
 unfold Go.movedPointer
 repeat' first|(with_reducible first|exact T.pure _|exact T.numberAt _|exact T.unsafeAdd _ _ _|exact T.observed|refine T.then ?_ (fun _=>?_))|dsimp only|split
theorem T.listForIn{γ δ:Type}{f:γ->δ->Sem (ForInStep δ)}(h:∀x y,T P (f x y)):∀(l:List γ) (b:δ),T P (forIn l b f)
 | [],b=>by rw [List.forIn_nil];exact T.pure _
 | x :: l,b=>by
  rw [List.forIn_cons]
  refine T.then (h x b) fun s=>?_
  split
  ·exact T.pure _
  ·exact T.listForIn h l _
theorem T.arrayForIn{γ δ:Type}{f:γ->δ->Sem (ForInStep δ)}(h:∀x y,T P (f x y))(l:Array γ)(b:δ):T P (forIn l b f):=by
 rw [←wv]
 exact T.listForIn h _ _
end
section
variable {P:me} {S:Env} {Bs:Nat->Prop}
theorem One.lost{fr:qg}{up z z':List qg}{w v:qq}{K:Nat}{f:qq->Outcome}(h:∀cs w,dx P s7 (G fr cs) w=.ended (f w) w):One P S Bs K fr up z z' w v:=
 .bad (f v) v (by rw [h];rfl)
theorem Wd{fr:qg}(h:Km P S fr){k:List Item}(hk:∀it∈k,AZ P S fr.fn it):Km P S { fr with todo:=k }:=⟨h.defers,h.kind,h.round,h.fn,h.mode,fun _=>hk,h.reg⟩
theorem Zy{fr:qg}(h:Km P S fr):Km P S { fr with mode:=.returning }:=⟨h.defers,h.kind,h.round,h.fn,o5 rfl,fun e=>(by cases e),h.reg⟩
theorem AH(hS:BL P S){fr:qg}{up:List qg}(hfr:Km P S fr)(hm:fr.mode=.run)(hu:R8 P S up)(w:qq):∃K,∀(z z':List qg) (v:qq),Cq Bs w v->(∀j,j<K->v.tape (v.drawn+j)=w.tape (w.drawn+j))->One P S Bs K fr up z z' w v:=by
 have ht:=hfr.todo hm
 cases htd:fr.todo with
 | nil=>
  exact Ljn
 | cons x k=>
  rw [htd] at ht
  have hk:∀it∈k,AZ P S fr.fn it:=fun it hit=>ht it (by simp [hit])
  have hx:AZ P S fr.fn x:=ht x Ae
  have two:∀{y:Item},AZ P S fr.fn y->∀it∈y :: k,AZ P S fr.fn it:=fun hy it hit=>by
   simp only [bI] at hit
   rcases hit with rfl|hit
   ·exact hy
   ·exact hk it hit
  have three:∀{y y':Item},AZ P S fr.fn y->AZ P S fr.fn y'->∀it∈y :: y' :: k,AZ P S fr.fn it:=fun hy hy' it hit=>by
   simp only [bI] at hit
   rcases hit with rfl|rfl|hit
   ·exact hy
   ·exact hy'
   ·exact hk it hit
  have to:∀{k':List Item},(∀it∈k',AZ P S fr.fn it)->(∀cs w,dx P s7 (G fr cs) w=.go (G { fr with todo:=k' } cs) w)->∃K,∀(z z':List qg) (v:qq),Cq Bs w v->(∀j,j<K->v.tape (v.drawn+j)=w.tape (w.drawn+j))->One P S Bs K fr up z z' w v:=
   fun hk' h=>⟨0,fun z z' v hs _=>One.ctl h hs (Wd hfr hk') hu⟩
  cases x with
  | code c=>
   cases c with
   | skip=>exact to hk fun cs w=>by rw [Cj hm];simp [th,htd,G,hm]
   | label l=>exact to hk fun cs w=>by rw [Cj hm];simp [th,htd,G,hm]
   | ret=>
    exact Ljn
   | seq a b=>exact to (k':=.code a :: .code b :: k) (three hx.1 hx.2) fun cs w=>by rw [Cj hm];simp [th,htd,G,hm]
   | cond c a b=>
    by_cases hb:∃t,fr.eval c=.bool t
    ·obtain⟨t,hb⟩:=hb
     refine to (k':=.code (if t then a else b) :: k) (two ?_) fun cs w=>by rw [Cj hm];simp [th,htd,G,hm,hb]
     cases t
     ·exact hx.2
     ·exact hx.1
    ·have hl:∃o,∀cs w,dx P s7 (G fr cs) w=.ended o w:=by
      cases he:fr.eval c with
      | bool t=>exact absurd ⟨t,he⟩ hb
      | _=>exact⟨_,fun cs w=>by rw [Cj hm];simp only [th,htd,he];rfl⟩
     obtain⟨o,hl⟩:=hl
     exact⟨0,fun z z' v hs _=>One.lost (f:=fun _=>o) hl⟩
   | block id b=>exact to (k':=.code b :: .inBlock id :: k) (three hx trivial) fun cs w=>by rw [Cj hm];simp [th,htd,G,hm]
   | loop b=>exact to (k':=.code b :: .inLoop b :: k) (three hx hx) fun cs w=>by rw [Cj hm];simp [th,htd,G,hm]
   | scope b=>exact to (k':=.code b :: .inScope b :: k) (three hx hx) fun cs w=>by rw [Cj hm];simp [th,htd,G,hm]
   | exit id=>
    cases he:exitTo id k with
    | some k'=>exact to (k':=k') (ON hk he) fun cs w=>by rw [Cj hm];simp [th,htd,G,hm,he]
    | none=>
     exact Kjg
   | goto l=>
    cases he:gotoIn l k with
    | some k'=>exact to (k':=k') (OO hk he) fun cs w=>by rw [Cj hm];simp [th,htd,G,hm,he]
    | none=>
     exact Kjg
   | rangeFunc f ps a b=>exact hx.elim
   | refuse s=>exact hx.elim
   | region id ops draw=>
    cases draw with
    | false=>exact to (k':=.inRegion ops (List.range ops.size) :: k) (two hx) fun cs w=>by rw [Cj hm];simp [th,htd,G,hm]
    | true=>
     refine⟨1,fun z z' v hs hag=>?_⟩
     have e0:v.tape v.drawn=w.tape w.drawn:=hag 0 Ab
     have key:∀cs (w:qq),dx P s7 (G fr cs) w=.go (G { fr with todo:=.inRegion ops (Region.schedule (P.follows .mixedOrders) ops (w.tape w.drawn (.order fr.fn id))) :: k } cs) { w with drawn:=w.drawn+1 }:=by
      intro cs w
      rw [Cj hm];simp [th,htd,G,hm,choose,Sem.run,Question.forced,Question.cut]
     refine .go { fr with todo:=.inRegion ops (Region.schedule (P.follows .mixedOrders) ops (w.tape w.drawn (.order fr.fn id))) :: k } up { w with drawn:=w.drawn+1 } { v with drawn:=v.drawn+1 } #[] (key _ _) ?_ (Wd hfr (two hx)) hu ⟨hs.drawn _ _,aA _,fun _ _=>rfl,rfl,rfl,rfl,rfl,⟨rfl,rfl⟩,fun _ _ h _=>h⟩ Ae
     rw [key,e0];rfl
  | inBlock id=>exact to hk fun cs w=>by rw [Cj hm];simp [th,htd,G,hm]
  | inScope b=>exact to hk fun cs w=>by rw [Cj hm];simp [th,htd,G,hm]
  | inLoop b=>exact to (k':=.code b :: .inLoop b :: k) (three hx hx) fun cs w=>by rw [Cj hm];simp [th,htd,G,hm]
  | inRegion ops l=>
   cases l with
   | nil=>exact to hk fun cs w=>by rw [Cj hm];simp [th,htd,G,hm]
   | cons i l=>
    cases ho:ops[i]? with
    | none=>
     obtain⟨h1,h2⟩:=Jb hfr hm undef (Ni _)
     refine⟨0,fun z z' v hs _=>One.ctl (fr':=fr.finish undef) (fun cs w=>?_) hs h1 hu⟩
     rw [Cj hm];simp [th,htd,G,ho]
    | some o=>
     cases hwt:Region.wanted o (yielded ops fr.tmps) with
     | false=>
      obtain⟨h1,h2⟩:=Jb hfr hm undef (Ni _)
      refine⟨0,fun z z' v hs _=>One.ctl (fr':=fr.finish undef) (fun cs w=>?_) hs h1 hu⟩
      rw [Cj hm];simp [th,htd,G,ho,hwt]
     | true=>
      refine⟨Fu P (execOp fr.eval o) w,fun z z' v hs hag=>One.apply hS hfr hm hu ⟨ops,i :: l,k,htd⟩ (fun cs w=>?_) (NP htd ho) ((hx i o ho).tame fr hfr.reg) hs hag⟩
      rw [Cj hm]
      simp [th,htd,ho,hwt,stepG.oper,Frame.oper?,hfr.round]
  | _=>exact hx.elim
theorem PN(hS:BL P S){fr c:qg}{up:List qg}(hfr:Km P S fr)(hm:fr.mode=.returning)(hu:R8 P S (c :: up))(w:qq):∃K,∀(z z':List qg) (v:qq),Cq Bs w v->(∀j,j<K->v.tape (v.drawn+j)=w.tape (w.drawn+j))->One P S Bs K fr (c :: up) z z' w v:=by
 obtain⟨fn,hf⟩:=hfr.fn
 obtain⟨hc,hcm,hcf⟩:=hu c Ae
 refine⟨Fu P (results fn fr.tmps) w,fun z z' v hs hag=>?_⟩
 have Dk:∀cs w,dx P s7 (G fr cs) w=il P s7 fr cs od w:=fun cs w=>by
  unfold dx G
  simp only [hm]
 cases Kf (results fn fr.tmps) (fun _=>False) w v #[] (T.results fn fr.tmps _) (fun _ h=>h.elim) hs hag with
 | bad h v' hr hb=>
  cases h with
  | stuck s=>exact .bad _ v' (by rw [Dk];simp only [il,hfr.defers,hm,hf,Sem.runT_eq,hr];rfl)
  | unsupported u=>exact .bad _ v' (by rw [Dk];simp only [il,hfr.defers,hm,hf,Sem.runT_eq,hr];rfl)
  | _=>exact hb.elim
 | panic x w' v' Fi hw hv ha Hf=>exact .bad _ v' (by rw [Dk];simp only [il,hfr.defers,hm,hf,Sem.runT_eq,hv];rfl)
 | ok a w' v' Fi hw hv hq ha Hf=>
  obtain⟨h1,h2⟩:=Jb hc hcm a (hcf a)
  refine .go (c.finish a) up w' v' _ ?_ ?_ h1 (fun x hx=>hu x (by simp [hx])) ha (Kd (P:=P) (fn:=fr.fn) (es:=#[]++Fi) (by simpa using Hf))
  ·rw [Dk]
   simp only [il,hfr.defers,hm,hf,hw,doReturn,bK,hfr.kind]
   simp [GStep.after,G]
  ·rw [Dk]
   simp only [il,hfr.defers,hm,hf,Sem.runT_eq,hv,doReturn,bK,hfr.kind]
   rfl
end
def Ki(P:me):qg:={ fn:=P.funcs.size,tmps:=#[],todo:=[.call default vp "fmt's door, shut" #[]],defers:=[],mode:=.run,kind:=.normal }
section
variable {P:me} {S:Env} {Bs:Nat->Prop}
theorem Nk{fr fr':qg}{cs cs':List qg}{w w':qq}(h:lone fr cs w=lone fr' cs' w'):fr=fr'/\cs=cs'/\w=w':=by
 simp only [lone,Machine.mk.injEq,dL,bV,Goroutine.mk.injEq] at h
 obtain⟨h1,h2,_⟩:=h
 exact⟨h2.1.1,h2.1.2.1,h1⟩
theorem Qj{n:Nat}{fr fr':qg}{cs cs':List qg}{w w':qq}{m:Machine}(h:(dx P s7 (G fr cs) w).bare=.go (G fr' cs') w')(hr:runN P (n+1) (lone fr cs w)=.next m):runN P n (lone fr' cs' w')=.next m:=by
 have:=step_lone_go (P:=P) (fr:=fr) (cs:=cs) (w:=w) h
 simpa only [runN,this] using hr
theorem runN_ended{n:Nat}{fr:qg}{cs:List qg}{w w':qq}{o:Outcome}{m:Machine}(h:(dx P s7 (G fr cs) w).bare=.ended o w')(hr:runN P (n+1) (lone fr cs w)=.next m):False:=by
 have:=step_lone_ended (P:=P) (fr:=fr) (cs:=cs) (w:=w) h
 simp [runN,this] at hr
theorem Eg{fr:qg}{cs:List qg}{w:qq}(hm:fr.mode≠.run):dx P s7 (G fr cs) w=il P s7 fr cs od w:=by
 unfold dx G
 cases h:fr.mode with
 | run=>exact absurd h hm
 | returning=>simp only [h]
 | panicking c=>simp only [h]
theorem raise_mode(fr:qg)(chain:List PanicEntry):∃c,fr.raise chain = { fr with mode:=.panicking c }:=by
 unfold Frame.raise
 split <;> exact⟨_,rfl⟩
theorem DH:∀(up:List qg) (fr:qg) (c:List PanicEntry),fr.defers = []->(∃f,P.funcs[fr.fn]? = lp f)->(∀x∈up,x.defers = []/\∃f,P.funcs[x.fn]? = lp f)->∀(n:Nat) (v v':qq) (fr':qg) (cs':List qg),
  runN P n (lone { fr with mode:=.panicking c } (up ++ [Ki P]) v)=.next (lone fr' cs' v')->∃c',fr'.mode=.panicking c':=by
 intro up
 induction up with
 | nil=>
  intro fr c hd hf hu n v v' fr' cs' hr
  obtain⟨f,hf⟩:=hf
  cases n with
  | zero=>
   exact Tca
  | succ n=>
   obtain⟨c2,e2⟩:=raise_mode (Ki P) c
   have h1:(dx P s7 (G { fr with mode:=.panicking c } ([] ++ [Ki P])) v).bare=.go (G { Ki P with mode:=.panicking c2 } []) v:=by
    rw [Eg Ae,←e2]
    simp only [il,hd,eu,hf]
    rfl
   have h2:=Qj h1 hr
   cases n with
   | zero=>
    simp only [runN,te] at h2
    rw [←(Nk h2).1]
    exact⟨_,rfl⟩
   | succ n=>
    have hnone:P.funcs[P.funcs.size]? = od:=Ae
    have h3:∃o,(dx P s7 (G { Ki P with mode:=.panicking c2 } []) v).bare=.ended o v:=by
     rw [Eg Ae]
     have hc:eu P { Ki P with mode:=.panicking c2 }=s7:=by
      simp only [eu,Ki,hnone]
      decide +kernel
     simp only [il,Ki] at hc ⊢
     simp only [hc,bC]
     exact⟨_,rfl⟩
    obtain⟨o,h3⟩:=h3
    exact(runN_ended h3 h2).elim
 | cons x up ih=>
  intro fr c hd hf hu n v v' fr' cs' hr
  obtain⟨f,hf⟩:=hf
  cases n with
  | zero=>
   exact Tca
  | succ n=>
   obtain⟨hx,hxm⟩:=hu x Ae
   obtain⟨c2,e2⟩:=raise_mode x c
   have h1:(dx P s7 (G { fr with mode:=.panicking c } ((x :: up) ++ [Ki P])) v).bare=.go (G { x with mode:=.panicking c2 } (up ++ [Ki P])) v:=by
    rw [Eg Ae,←e2]
    simp only [il,hd,eu,hf,bK]
    rfl
   exact ih x c2 hx hxm (fun y hy=>hu y (by simp [hy])) n v v' fr' cs' (Qj h1 hr)
theorem AE{fr:qg}(hfr:Km P S fr)(hm:fr.mode=.returning)(n:Nat)(v v':qq)(fr':qg):runN P (n+1) (lone fr [Ki P] v)≠.next (lone fr' [Ki P] v'):=by
 intro hr
 obtain⟨fn,hf⟩:=hfr.fn
 cases Gr:(results fn fr.tmps).run P v with
 | halt h v1=>
  have h1:∃o,(dx P s7 (G fr [Ki P]) v).bare=.ended o v1:=by
   rw [Eg (by rw [hm];simp)]
   simp only [il,hfr.defers,hm,hf,Sem.runT_eq,Gr]
   cases h <;> exact⟨_,rfl⟩
  obtain⟨o,h1⟩:=h1
  exact runN_ended h1 hr
 | ok x v1=>
  have h1:(dx P s7 (G fr [Ki P]) v).bare=.go (G ((Ki P).finish x) []) v1:=by
   rw [Eg (by rw [hm];simp)]
   simp only [il,hfr.defers,hm,hf,Sem.runT_eq,Gr,doReturn,hfr.kind]
   rfl
  have h2:=Qj h1 hr
  cases n with
  | zero=>
   simp only [runN,te] at h2
   have:=(Nk h2).2.1
   simp at this
  | succ n=>
   have hx:Extern.next "fmt's door, shut" = od:=by decide +kernel
   have h3:∃o,(dx P s7 (G ((Ki P).finish x) []) v1).bare=.ended o v1:=by
    rw [Cj rfl]
    simp only [th,Ki,Frame.finish,hx,Option.elim]
    exact⟨_,rfl⟩
   obtain⟨o,h3⟩:=h3
   exact runN_ended h3 h2
end
section
variable {P:me} {α β:Type} {Q:β->Prop} {A:Nat->Prop}
theorem T.underlyingThen{t:s8}{f:TypeDesc->Sem β}(h:∀d,P.underlying t=lp d->T P (f d)):T P (Go.underlying t >>= f):=fun A=>by
 show Ev P _ ((match P.underlying t with|some d=>Pure.pure d|none=>Go.stuck "no such type" : Sem TypeDesc).bind f) A
 cases hd:P.underlying t with
 | some d=>exact h d hd A
 | none=>exact af trivial
theorem T.listForInMem{γ δ:Type}{f:γ->δ->Sem (ForInStep δ)}:∀(l:List γ) (b:δ),(∀x,x∈l->∀y,T P (f x y))->T P (forIn l b f)
 | [],b,h=>by rw [List.forIn_nil];exact T.pure _
 | x :: l,b,h=>by
  rw [List.forIn_cons]
  refine T.then (h x Ae b) fun s=>?_
  split
  ·exact T.pure _
  ·exact T.listForInMem l _ fun y hy=>h y (by simp [hy])
theorem T.arrayForInMem{γ δ:Type}{f:γ->δ->Sem (ForInStep δ)}(l:Array γ)(b:δ)(h:∀x,x∈l->∀y,T P (f x y)):T P (forIn l b f):=by
 rw [←wv]
 exact T.listForInMem _ _ fun x hx=>h x (by simpa using hx)
theorem T.rangeForIn{δ:Type}{f:Nat->δ->Sem (ForInStep δ)}(h:∀x y,T P (f x y))(l:Std.Legacy.Range)(b:δ):T P (forIn l b f):=by
 rw [Std.Legacy.Range.forIn_eq_forIn_range']
 exact T.listForIn h _ _
def Vk(P:me):Nat->s8->Bool
 | 0,_=>vp
 | n+1,t=>match P.underlying t with
  | some .bool=>s7
  | some (.int _)=>s7
  | some .string=>s7
  | some (.slice _)=>s7
  | some (.map _ _)=>s7
  | some (.func _ _ _)=>s7
  | some (.struct fs)=>fs.all fun f=>Vk P n f.type
  | some (.array _ e)=>Vk P n e
  | _=>vp
theorem T.equalIn:∀(n:Nat) (t:s8),Vk P n t=s7->∀(d:Nat) (x y:tj),T P (Op.equalIn d t x y):=by
 intro n
 induction n with
 | zero=>intro t h;cases h
 | succ n ih=>
  intro t h d x y
  cases d with
  | zero=>exact T.limit _
  | succ d=>
   unfold Op.equalIn
   refine T.underlyingThen fun u hu=>?_
   unfold Vk at h
   rw [hu] at h
   cases u with
   | bool=>split <;> first|contradiction|exact T.pure _|exact T.stuck _
   | string=>split <;> first|contradiction|exact T.pure _|exact T.stuck _
   | slice e=>split <;> first|contradiction|exact T.pure _|exact T.stuck _
   | map k e=>split <;> first|contradiction|exact T.pure _|exact T.stuck _
   | func a b c=>split <;> first|contradiction|exact T.pure _|exact T.stuck _
   | int k=>
    split <;> first
     | contradiction
     | (repeat' first|(with_reducible first|exact T.pure _|exact T.stuck _|exact T.observed|exact T.behindNumber _|exact T.program|exact T.byteOf _|exact T.typeInfo _|refine T.then ?_ (fun _=>?_))|dsimp only|split)
   | struct fs=>
    have D9:∀f,f∈fs->Vk P n f.type=s7:=fun f hf=>dO.1 (show(fs.all fun f=>Vk P n f.type)=s7 from h) f hf
    split <;> first
     | contradiction
     | exact T.stuck _
     | skip
    rename_i heq
    cases heq
    repeat' first|(with_reducible first|exact T.pure _|exact T.stuck _|exact T.noEntry _|exact T.program|exact T.part _ _ _|refine T.arrayForInMem _ _ (fun f hf r=>?_)|exact ih _ (D9 _ Af) _ _ _|refine T.then ?_ (fun _=>?_))|dsimp only|split
   | array k e=>
    split <;> first
     | contradiction
     | exact T.stuck _
     | skip
    rename_i heq
    cases heq
    repeat' first|(with_reducible first|exact T.pure _|exact T.stuck _|exact T.sizeOf _|exact T.part _ _ _|refine T.rangeForIn (fun f r=>?_) _ _|exact ih _ h _ _ _|refine T.then ?_ (fun _=>?_))|dsimp only|split
   | _=>cases h
theorem T.eqGuardIn:∀(d:Nat) (t:s8) (x y:tj),T P (Op.eqGuardIn d t x y):=by
 intro d
 induction d with
 | zero=>exact fun _ _ _=>T.limit _
 | succ d ih=>
  intro t x y
  unfold Op.eqGuardIn
  repeat' first|(with_reducible first|exact T.pure _|exact T.underlying _|exact T.sizeOf _|exact T.part _ _ _|exact ih _ _ _|refine T.rangeForIn (fun f r=>?_) _ _|refine T.arrayForInMem _ _ (fun f hf r=>?_)|refine T.then ?_ (fun _=>?_))|dsimp only|split
theorem T.eqGuard(op:eh)(t:s8)(x y:Operand)(a b:tj):T P (eqGuard op t x y a b):=by
 unfold Go.eqGuard
 repeat' first|(with_reducible first|exact T.pure _|exact T.noEntry _|exact T.program|exact T.eqGuardIn _ _ _ _|refine T.then ?_ (fun _=>?_))|dsimp only|split
theorem T.floatArith(op:eh)(k:fi)(x y:Nat):T P (Op.floatArith op k x y):=by
 unfold Op.floatArith
 exact tg
theorem T.floatCmp(op:eh)(k:fi)(x y:Nat):T P (Op.floatCmp op k x y):=by
 unfold Op.floatCmp
 exact tg
theorem T.floatToFloat(k:fi)(b:Nat)(d:fi):T P (Conv.floatToFloat k b d):=by
 unfold Conv.floatToFloat
 exact tg
theorem T.carith(op:eh)(k:fi)(x y:Nat):T P (rh op k x y):=by
 unfold rh
 refine T.then (T.floatArith _ _ _ _) fun v=>?_
 exact tg
theorem T.ccmp(op:eh)(k:fi)(x y:Nat):T P (ig op k x y):=by
 unfold ig
 exact T.then (T.floatCmp _ _ _ _) fun v=>T.asBool _
theorem T.cconv(k:fi)(x:Nat)(d:fi):T P (xq k x d):=by
 unfold xq
 split
 ·exact T.pure _
 ·refine T.then (T.floatToFloat _ _ _) fun v=>?_
  exact tg
theorem T.product(a b c d:Nat):T P (zi a b c d):=by
 unfold zi xu yu vg
 exact M6q
theorem T.corrected(s a b c d:Nat):T P (xf s a b c d):=by
 unfold xf xu yu vg
 exact M6q
theorem T.quotient(a b c d:Nat):T P (wo a b c d):=by
 unfold wo xu yu vg Op.Complex.quo
 repeat' first|(with_reducible first|exact T.carith _ _ _ _|exact T.ccmp _ _ _ _|exact T.corrected _ _ _ _ _|exact T.pure _|refine T.then ?_ (fun _=>?_))|dsimp only|split
theorem T.complexOp(op:eh)(k:fi)(a b c d:Nat):T P (Op.complexOp op k a b c d):=by
 unfold Op.complexOp
 repeat' first|(with_reducible first|exact T.carith _ _ _ _|exact T.ccmp _ _ _ _|exact T.cconv _ _ _|exact T.product _ _ _ _|exact T.quotient _ _ _ _|exact T.pure _|exact T.stuck _|refine T.then ?_ (fun _=>?_))|dsimp only|split
theorem T.stringOp(op:eh)(x y:ByteArray):T P (Op.stringOp op x y):=by
 unfold Op.stringOp
 exact tg
theorem T.shift(op:eh)(k:ll)(x:Int)(l:ll)(y:Int):T P (Op.shift op k x l y):=by
 unfold Op.shift
 exact tg
theorem T.intArith(op:eh)(k:ll)(x y:Int):T P (Op.intArith op k x y):=by
 unfold Op.intArith
 exact tg
theorem T.intDiv(op:eh)(k:ll)(x y:Int):T P (Op.intDiv op k x y):=by
 unfold Op.intDiv
 exact tg
theorem T.intBits(op:eh)(k:ll)(x y:Int):T P (Op.intBits op k x y):=by
 unfold Op.intBits
 exact tg
theorem T.intCmp(op:eh)(x y:Int):T P (Op.intCmp op x y):=by
 unfold Op.intCmp
 exact tg
theorem T.equalNil(t:s8){e:s8}(ht:P.underlying t=lp (.pointer e)){x y:tj}(h:x=.pointer od∨y=.pointer od):T P (Op.equal t x y):=by
 unfold Op.equal Op.maxDepth Op.equalIn
 refine T.underlyingThen fun u hu=>?_
 obtain rfl:u=.pointer e:=aC (hu.symm.trans ht)
 rcases h with rfl|rfl
 ·cases y <;> first|exact T.stuck _|exact T.pure _
 ·cases x <;> first|exact T.stuck _|skip
  rename_i a
  cases a <;> exact T.pure _
theorem T.binOp(op:eh)(t:s8)(x y:tj)(h:op=.eql∨op=.neq->T P (Op.equal t x y)):T P (binOp op t x y):=by
 unfold Go.binOp
 repeat' first
  | (with_reducible first|exact T.shift _ _ _ _ _|exact T.intArith _ _ _ _|exact T.intDiv _ _ _ _|exact T.intBits _ _ _ _|exact T.intCmp _ _ _|exact T.floatArith _ _ _ _|exact T.floatCmp _ _ _ _|exact T.complexOp _ _ _ _ _ _|exact T.stringOp _ _ _|exact h (af rfl)|exact h (o5 rfl)|exact T.underlying _|exact T.movedPointer _ _ _|exact T.movedNumber _ _ _|exact T.behindNumber _|exact T.addrSub _ _ _|exact T.addrCmp _ _ _|exact T.addrMod _ _ _|exact T.observed|exact T.pure _|exact T.stuck _|refine T.then ?_ (fun _=>?_))
  | dsimp only|split
theorem T.stringToBytes(e:s8)(s:ByteArray):T P (Conv.stringToBytes e s):=by
 intro A n
 refine⟨trivial,fun r=>o5 ⟨fun x=>?_,af (o5 rfl)⟩⟩
 cases x with
 | none=>exact trivial
 | some x=>exact⟨o5 rfl,trivial⟩
theorem T.bytesToString(x:tj):T P (zl x):=by
 unfold zl
 exact O7z
theorem T.floatToInt(k:fi)(b:Nat)(d:ll):T P (Conv.floatToInt k b d):=by
 unfold Conv.floatToInt
 exact tg
end
section
variable {P:me} {S:Env} {Bs:Nat->Prop} {c0:qg} {Hb:List qg}
structure Kept(Bs:Nat->Prop)(w w':qq):Prop where
 grow:w.heap.size<=w'.heap.size
 keep:∀i,Bs i->w'.heap[i]? = w.heap[i]?
 same:Ed w w'
 tape:w'.tape=w.tape
 far:∀(i:Nat) (o:Obj),w'.heap[i]? = lp o->¬B7 o->w.heap[i]? = lp o
theorem Kept.refl(w:qq):Kept Bs w w:=⟨aA _,fun _ _=>rfl,Ed.refl _,rfl,fun _ _ h _=>h⟩
inductive Pe(P:me)(Bs:Nat->Prop)(c0:qg)(Hb:List qg)(Stop:tj->qq->Prop):qg->List qg->qq->Prop
 | stop {fr:qg} {w:qq} (h:∀d,∃val w' es,dx P s7 (G fr (c0 :: Hb)) (w.at d)=.go (G (c0.finish val) Hb) w' es/\w.heap.size<=w'.heap.size/\Ed w w'/\(∀e∈es,Pd Bs w'.heap.size e)/\Stop val w'):Pe P Bs c0 Hb Stop fr [] w
 | step {fr:qg} {up:List qg} {w:qq} (fr':Nat->qg) (up':Nat->List qg) (w':Nat->qq) (es:Nat->Array p6)
   (h:∀d,dx P s7 (G fr (up++c0 :: Hb)) (w.at d)=.go (G (fr' d) (up' d++c0 :: Hb)) (w' d) (es d)/\w.heap.size<=(w' d).heap.size/\Ed w (w' d)/\∀e∈es d,Pd Bs (w' d).heap.size e)
   (hn:∀d,Pe P Bs c0 Hb Stop (fr' d) (up' d) (w' d)):Pe P Bs c0 Hb Stop fr up w
theorem Pe.steps{Stop:tj->qq->Prop}{fr:qg}{up:List qg}{w:qq}(h:∀d,∃fr' up' w' es,dx P s7 (G fr (up++c0 :: Hb)) (w.at d)=.go (G fr' (up'++c0 :: Hb)) w' es/\w.heap.size<=w'.heap.size/\Ed w w'/\(∀e∈es,Pd Bs w'.heap.size e)/\Pe P Bs c0 Hb Stop fr' up' w'):Pe P Bs c0 Hb Stop fr up w:=
 .step (fun d=>(h d).choose) (fun d=>(h d).choose_spec.choose) (fun d=>(h d).choose_spec.choose_spec.choose) (fun d=>(h d).choose_spec.choose_spec.choose_spec.choose)
  (fun d=>let x:=(h d).choose_spec.choose_spec.choose_spec.choose_spec;⟨x.1,x.2.1,x.2.2.1,x.2.2.2.1⟩) (fun d=>(h d).choose_spec.choose_spec.choose_spec.choose_spec.2.2.2.2)
theorem Pk{Shun:Loc->Prop}(hS1:∀a,Shun (.cell a)->Bs a.block)(hS2:∀r,Shun (.obj r)->Bs r){B:Nat}{e:p6}(h:Pd Bs B e):EvL Shun B e:=by
 obtain⟨loc,wr,sy⟩:=e
 unfold Pd at h
 cases loc with
 | cell a=>
  refine⟨fun x hx hs=>?_,Ae,Ae,?_⟩
  ·have:x.loc=.cell a:=by cases wr <;> cases sy <;> simp [MemAct.ofEvent,MemAct.touch?] at hx <;> subst hx <;> rfl
   exact absurd (hS1 a (this▸hs)) h.1
  ·cases wr <;> cases sy <;> exact h.2
 | obj r=>
  refine⟨fun x hx hs=>?_,Ae,Ae,?_⟩
  ·have:x.loc=.obj r:=by cases wr <;> cases sy <;> simp [MemAct.ofEvent,MemAct.touch?] at hx <;> subst hx <;> rfl
   rcases h.1 with h1|⟨h1,h2⟩
   ·exact absurd (hS2 r (this▸hs)) h1
   ·simp only at h1 h2
    subst h1 h2
    simp [MemAct.ofEvent,MemAct.touch?] at hx
    subst hx
    simp
  ·cases wr <;> cases sy <;> exact h.2
 | mark m=>
  cases m <;> first|exact h.elim|skip
  all_goals
   refine⟨fun x hx hs=>?_,Ae,Ae,trivial⟩
   simp [MemAct.ofEvent,MemAct.touch?] at hx
 | output=>exact h.elim
 | goroutines=>exact h.elim
theorem Pe.ea{Shun:Loc->Prop}{Post:tj->qq->Prop}{Stop:tj->qq->Prop}(hS1:∀a,Shun (.cell a)->Bs a.block)(hS2:∀r,Shun (.obj r)->Bs r)(E5:∀val w,Stop val w->EA P Post Shun (G (c0.finish val) Hb) w){fr:qg}{up:List qg}{w:qq}(h:Pe P Bs c0 Hb Stop fr up w):EA P Post Shun (G fr (up++c0 :: Hb)) w:=by
 induction h with
 | @stop fr w h=>
  refine EA.goes (n:=1) (Goes.step rfl fun w₁ r=>?_)
  obtain⟨d,rfl⟩:=r
  obtain⟨val,w',es,hs,Di,hsm,Hf,Dk⟩:=h d
  rw [aP,hs,goes_go]
  exact⟨⟨Di,fun e he=>Pk hS1 hS2 (Hf e he),hsm⟩,EA.stop (E5 _ _ Dk)⟩
 | @step fr up w fr' up' w' es h hn ih=>
  refine EA.goes (n:=1) (Goes.step rfl fun w₁ r=>?_)
  obtain⟨d,rfl⟩:=r
  obtain⟨hs,Di,hsm,Hf⟩:=h d
  rw [hs,goes_go]
  exact⟨⟨Di,fun e he=>Pk hS1 hS2 (Hf e he),hsm⟩,EA.stop (ih d)⟩
end
def TA{α:Type}(P:me)(r:Nat)(s:Sem α):Prop:=∀A:Nat->Prop,A r->Ev P (fun _=>True) s A
section
variable {P:me} {α β:Type} {r:Nat}
theorem T.ta{s:Sem α}(h:T P s):TA P r s:=fun A _=>h A
theorem TA.then{s:Sem α}{f:α->Sem β}(h:T P s)(hf:∀a,TA P r (f a)):TA P r (s >>= f):=fun A hA=>Ev.bind s (h A) fun a _ A' hA'=>hf a A' (hA' r hA)
theorem TA.setObj{o:Obj}(h1:B7 o)(h2:kindOf o=od):TA P r (setObj r o):=fun A hA=>⟨⟨hA,h1,h2⟩,trivial⟩
theorem TA.bind{s:Sem α}{f:α->Sem β}(h:TA P r s)(hf:∀a,TA P r (f a)):TA P r (s >>= f):=fun A hA=>Ev.bind s (h A hA) fun a _ A' hA'=>hf a A' (hA' r hA)
theorem T.getHold{f:Obj->Sem β}(hf:∀o,CS o->TA P r (f o))(hs:∀o,¬CS o->T P (f o))(hd:∀a t,Ej P (fun _=>False) (f (.view a t))):T P (getObj r >>= f):=fun A=>
 ⟨fun o=>by
  by_cases ho:CS o
  ·exact hf o ho _ (o5 ⟨rfl,ho⟩)
  ·exact hs o ho _,af hd⟩
theorem TA.getHold{m:Nat}{f:Obj->Sem β}(hf:∀o,TA P r (f o))(hd:∀a t,Ej P (fun _=>False) (f (.view a t))):TA P r (getObj m >>= f):=fun A hA=>
 ⟨fun o=>hf o _ (af hA),af hd⟩
theorem T.stuckThen(s:String)(f:α->Sem β):T P (Go.stuck s >>= f):=fun _=>af trivial
theorem T.typeStr(t:s8):T P (typeStr t):=by
 unfold Go.typeStr
 repeat' first|(with_reducible first|exact T.pure _|exact T.stuck _|exact T.noEntry _|exact T.program|exact T.typeInfo _|refine T.then ?_ (fun _=>?_))|dsimp only|split
theorem T.checkKey(e:Bool):∀(n:Nat) (t:s8) (v:tj),T P (Instr.checkKey e n t v):=by
 intro n
 induction n with
 | zero=>exact fun _ _=>T.limit _
 | succ n ih=>
  intro t v
  unfold Instr.checkKey
  refine T.then (T.underlying _) fun d=>?_
  split
  ·refine T.then (T.typeInfo _) fun i=>?_
   repeat' first|(with_reducible first|exact T.pure _|exact T.runtimePanic _|exact T.typeStr _|exact ih _ _|refine T.then ?_ (fun _=>?_))|dsimp only|split
  ·refine T.then (T.rangeForIn (fun _ _=>?_) _ _) fun _=>T.pure _
   exact Ufq
  ·refine T.then (T.arrayForIn (fun _ _=>?_) _ _) fun _=>T.pure _
   exact Ufq
  all_goals first|exact T.pure _|exact T.stuck _
theorem T.findAsking{t:s8}(h:Vk P 6 t=s7)(k:tj):∀(es:List MapEntry) (i:Nat),T P (Instr.findAsking t k es i)
 | [],_=>T.pure _
 | e :: es,i=>by
  unfold Instr.findAsking
  refine T.then (T.equalIn 6 t h _ _ _) fun b=>?_
  split
  ·exact T.pure _
  ·exact T.findAsking h k es (i+1)
theorem T.findKey{t:s8}(h:Vk P 6 t=s7)(k:tj)(es:List MapEntry):T P (Instr.findKey t k es):=by
 unfold Instr.findKey
 refine T.then (T.underlying _) fun d=>?_
 split
 ·exact T.pure _
 ·exact T.findAsking h _ _ _
def Rt(P:me)(t:s8):Bool:=match P.underlying t with|some (.map k _)=>Vk P 6 k|_=>s7
theorem T.keyThatStays(a b:tj):T P (lu a b):=by
 unfold lu
 split
 ·exact T.pure _
 ·exact T.then (T.choose _) fun _=>T.pure _
theorem T.makeMap(t:s8)(r:Option tj):T P (Instr.makeMap t r):=by
 unfold Instr.makeMap
 exact X2p
theorem T.lookup(t:s8)(x i:tj)(b:Bool)(h:Rt P t=s7):T P (Instr.lookup t x i b):=by
 unfold Instr.lookup
 refine T.underlyingThen fun d hd=>?_
 unfold Rt at h
 rw [hd] at h
 cases d <;> first|exact T.stuck _|skip
 dsimp only at h ⊢
 split
 ·exact X2p
 ·exact Ii5
 ·exact X2p
theorem T.mapUpdate(t:s8)(m k v:tj)(h:Rt P t=s7):T P (Instr.mapUpdate t m k v):=by
 unfold Instr.mapUpdate
 refine T.underlyingThen fun d hd=>?_
 unfold Rt at h
 rw [hd] at h
 cases d <;> first|exact T.stuck _|skip
 dsimp only at h ⊢
 split
 ·exact T.runtimePanic _
 ·refine T.getHold (fun o ho=>?_) (fun o ho=>?_) (fun _ _=>trivial)
  ·exact Ipn
  ·cases o <;> first|exact T.stuck _|exact absurd ⟨trivial,rfl,rfl⟩ ho
 ·exact T.stuck _
theorem T.delete(ts:Array s8)(t:s8)(xs:Array tj)(h:∀m,ts[0]? = lp m->Rt P m=s7):T P (al ts t xs):=by
 unfold al
 cases h0:ts[0]? with
 | none=>exact T.stuck _
 | some mt=>
  cases h1:xs[0]? with
  | none=>exact T.stuck _
  | some m=>
   cases h2:xs[1]? with
   | none=>exact T.stuck _
   | some k=>
    have h:=h mt h0
    dsimp only
    refine T.underlyingThen fun d hd=>?_
    unfold Rt at h
    rw [hd] at h
    cases d <;> first|exact T.stuck _|skip
    dsimp only at h ⊢
    split
    ·exact X2p
    ·refine T.getHold (fun o ho=>?_) (fun o ho=>?_) (fun _ _=>trivial)
     ·exact Ipn
     ·cases o <;> first|exact T.stuckThen _ _|exact T.stuck _|exact absurd ⟨trivial,rfl,rfl⟩ ho
    ·exact X2p
theorem T.range(t:s8)(x:tj):T P (Instr.range t x):=by
 unfold Instr.range
 refine T.then (T.underlying _) fun d=>?_
 dsimp only
 split
 ·exact X2p
 ·exact X2p
 ·exact Ii5
 ·exact X2p
theorem T.next(x:tj)(b:Bool)(t:s8):T P (Instr.next x b t):=by
 unfold Instr.next
 dsimp only
 split
 ·refine T.getHold (fun o ho=>?_) (fun o ho=>?_) (fun _ _=>by cases b <;> trivial)
  ·split
   ·exact Ipn
   ·exact T.ta (T.pure _)
   ·refine TA.getHold (fun o=>?_) (fun _ _=>trivial)
    exact Ipn
   ·exact T.ta (T.stuck _)
  ·split
   ·exact absurd ⟨trivial,rfl,rfl⟩ ho
   ·exact absurd ⟨trivial,rfl,rfl⟩ ho
   ·exact absurd ⟨trivial,rfl,rfl⟩ ho
   ·exact T.stuck _
 ·exact T.stuck _
theorem T.entry(x:tj):T P (Instr.entry x):=by
 unfold Instr.entry
 split
 ·refine T.getObjBind (fun o=>?_) (fun _ _=>trivial)
  cases o <;> first|exact T.stuck _|skip
  dsimp only
  split
  ·split
   ·refine T.getObjBind (fun o=>?_) (fun _ _=>trivial)
    repeat' first|(with_reducible first|exact T.pure _|exact T.stuck _|exact T.noEntry _|refine T.then ?_ (fun _=>?_))|dsimp only|split
   ·exact T.stuck _
  ·exact T.stuck _
 ·exact T.stuck _
end
end Go.Pair
