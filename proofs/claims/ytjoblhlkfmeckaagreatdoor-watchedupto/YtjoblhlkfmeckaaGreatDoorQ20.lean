import Derived.Test.YtjoblhlkfmeckaaGreatDoorQ07
import Derived.Test.YtjoblhlkfmeckaaGreatDoorQ19
import Derived.Test.YtjoblhlkfmeckaaGreatDoorQ14
import Derived.Test.YtjoblhlkfmeckaaGreatDoorQ13
import Derived.Test.YtjoblhlkfmeckaaGreatDoorQ15
import Derived.Test.YtjoblhlkfmeckaaGreatDoorQ16
set_option maxHeartbeats 1000000
set_option maxRecDepth 8000
set_option linter.unusedVariables false
set_option linter.unusedSimpArgs false
open Go renaming undef → yj,Value → tj,World → qq,heap_alloc_new → tw,results_tmp → yi,TypeId → s8
open Option renaming some → lp,none → od
open Go.Proofs.Tryz renaming prog → ly
open Bool renaming true → s7
open List.range renaming loop → an
open List renaming range → qw
open Go.Exit renaming normal → kr
open Go.Act renaming eval → cj
open Go.Conc renaming events_results_tmp → qz
open Prod renaming fst → xo
open Go.Region renaming wanted → br
open Go.Value renaming int → rl,string → pt,pointer → om,slice → cf,tuple → fh
open Go.Obj renaming cells → ye
open Go.IntKind renaming i64 → tz
open Or renaming inl → af,inr → o5
open Go.Proofs.Tryz
theorem Xin{p q:Prop}(k:q)(h:Hd q->p:=by
 intro kz
 refine EV.ropP rfl Ac (by intro cz hz;cases hz) (fun wz=>by first|rfl|(simp only [Gc,rev,Act.eval,rn,aU,aK,aI,Nat.reduceAdd,bB,aX,aY,List.range,List.range.loop,aM];go_simp;done)|(simp only [Gc,rev,Act.eval,rn,aU,aK,aI,Nat.reduceAdd,bB,aX,aY,List.range,List.range.loop,aM];go_simp;rfl)) (fun wz=>by first|rfl|(simp only [Gc,rev,Act.eval,rn,aU,aK,aI,Nat.reduceAdd,bB,aX,aY,List.range,List.range.loop,aM];go_simp;done)|(simp only [Gc,rev,Act.eval,rn,aU,aK,aI,Nat.reduceAdd,bB,aX,aY,List.range,List.range.loop,aM];go_simp;rfl)) ?_;simp only [Gc,rev,Act.eval,rn,aU,aK,aI,Nat.reduceAdd,bB,aX,aY,List.range,List.range.loop,aM]
 exact kz.1):p:=h ⟨k⟩
theorem Tk1{p q:Prop}(k:q)(h:Hd q->p:=by
 intro kz
 refine EV.ctl rfl rfl (fun w=>Ux) ?_
 simp only [Gc,rev,Act.eval,rn,aU,aK,aI,Nat.reduceAdd,bB,aX,aY,List.range,List.range.loop,aM]
 exact kz.1):p:=h ⟨k⟩
theorem Tvw{p q:Prop}(k:q)(h:Hd q->p:=by
 intro kz
 iterate 2(refine Aw ?_)
 refine A5 ?_
 exact kz.1):p:=h ⟨k⟩
theorem Pdv{p q:Prop}(k:q)(h:Hd q->p:=by
 intro kz
 refine Ak ?_
 refine Am ?_
 exact kz.1):p:=h ⟨k⟩
theorem B7l{p:Prop}(h:p:=by
 unfold execOp
 walk_nrm
 simp only [Sem.run_bind,hr]
 rfl):p:=h
theorem H3l{p:Prop}(h:p:=by
 refine⟨_,L,.inl ?_,rfl,hs⟩
 unfold execOp
 walk_nrm
 simp only [Sem.run_bind,hr]
 rfl):p:=h
theorem Fbn{p q:Prop}(k:q)(h:Hd q->p:=by
 intro kz
 refine A6.all Aa ?_ _
 exact kz.1):p:=h ⟨k⟩
theorem Cc4{p q:Prop}(k:q)(h:Hd q->p:=by
 intro kz
 refine Bi (t:=true) Ac ?_;simp only [bC,bQ,aV]
 exact kz.1):p:=h ⟨k⟩
theorem Vmv{p q:Prop}(k:q)(h:Hd q->p:=by
 intro kz
 refine A6.tp 7 hI hQ hS3 ?_;walk_nrm
 refine A6.tp 8 hI hQ hS3 ?_;walk_nrm
 refine A6.tp 9 hI hQ hS3 ?_;walk_nrm
 exact kz.1):p:=h ⟨k⟩
theorem Fgc{p q:Prop}(k:q)(h:Hd q->p:=by
 intro kz
 walk_nrm
 refine A6.tp 12 hI hQ hS4 ?_;walk_nrm
 exact kz.1):p:=h ⟨k⟩
theorem Iub{p q:Prop}(k:q)(h:Hd q->p:=by
 intro kz
 refine A6.tp 7 hI hQ hS2 ?_;walk_nrm
 refine A6.tp 8 hI hQ hS2 ?_;walk_nrm
 refine A6.tp 9 hI hQ hS2 ?_;walk_nrm
 refine A6.only (i:=10) Aa ?_
 exact kz.1):p:=h ⟨k⟩
theorem Ybw{p q:Prop}(k:q)(h:Hd q->p:=by
 intro kz
 refine Fbn ?_
 simp only [Az]
 exact kz.1):p:=h ⟨k⟩
theorem K75{p q:Prop}(k:q)(h:Hd q->p:=by
 intro kz
 refine Am ?_
 refine Cc4 ?_
 exact kz.1):p:=h ⟨k⟩
theorem V8a{p q:Prop}(k:q)(h:Hd q->p:=by
 intro kz
 have nn:¬Bs (u1.at d0).heap.size:=fun h=>by have:=(W1.at d0).lt h;omega
 have hk2':Ar u1 ((u1.at d0).alloc (.cells Nd.zero.cs 96)) (fun _=>False):=((Ar.refl u1 _).at d0).trans H2
 revert nn hk2'
 exact kz.1):p:=h ⟨k⟩
theorem Gwc{p q:Prop}(k:q)(h:Hd q->p:=by
 intro kz
 walk_nrm
 have hS2:=F2.kx hS H2 id id
 refine Iub ?_
 have hk3:=B8 u2 Nd.zero.cs 96 (fun _=>False)
 have W3:=W2.alloc Nd.zero.cs 96
 have hn3:(u2.alloc (.cells Nd.zero.cs 96)).heap[u2.heap.size]? = some (.cells Nd.zero.cs 96):=heap_alloc_new _ _
 revert hS2 hk3 W3 hn3
 exact kz.1):p:=h ⟨k⟩
theorem Ngc{p q:Prop}(k:q)(h:Hd q->p:=by
 intro kz
 have H2:=(B8 (u1.at d0) Nd.zero.cs 96 (fun _=>False))
 have W2:=(W1.at d0).alloc Nd.zero.cs 96
 have hn2:((u1.at d0).alloc (.cells Nd.zero.cs 96)).heap[(u1.at d0).heap.size]? = some (.cells Nd.zero.cs 96):=heap_alloc_new _ _
 have hS2:=F2.kx hS H2 id id
 revert H2 W2 hn2 hS2
 exact kz.1):p:=h ⟨k⟩
theorem Jzm{p q:Prop}(k:q)(h:Hd q->p:=by
 intro kz
 have T4:=Kv hn3 x
 have Ia:Ar u3 (Jg u3 u2.heap.size x) (· = u2.heap.size):=Ar.of_grown T4.grown (.inl rfl)
 have hne1:¬u.heap.size=u2.heap.size:=fun h=>by have h1:=ltOf F7;have h2:=hk2'.size;omega
 have hne2:¬svb=u2.heap.size:=fun h=>by have h1:=ltOf hv1;have h2:=hk2'.size;omega
 have hS4:=F2.kx hS3 Ia hne1 hne2
 revert T4 Ia hne1 hne2 hS4
 exact kz.1):p:=h ⟨k⟩
theorem Ft6{p q:Prop}(k:q)(h:Hd q->p:=by
 intro kz
 have T4:=Kv hn3 x
 have Ia:Ar u3 (Jg u3 (u1.at d0).heap.size x) (· = (u1.at d0).heap.size):=Ar.of_grown T4.grown (.inl rfl)
 have hne1:¬u.heap.size=(u1.at d0).heap.size:=fun h=>by have h1:=ltOf F7;have h2:=hle;omega
 have hne2:¬svb=(u1.at d0).heap.size:=fun h=>by have h1:=ltOf hv1;have h2:=hle;omega
 have hS4:=F2.kx hS3 Ia hne1 hne2
 revert T4 Ia hne1 hne2 hS4
 exact kz.1):p:=h ⟨k⟩
theorem Sno{p q:Prop}(k:q)(h:Hd q->p:=by
 intro kz
 refine Fgc ?_
 have hk14:Ar u1 (Jg u3 u2.heap.size x) (fun _=>False):=⟨Ia.os.trans Ft.os,Ia.tape.trans Ft.tape,Ia.output.trans Ft.output,aE Ft.size Ia.size,fun k hkl _=>(Ia.block k (aB hkl Ft.size) (fun h=>by have h2:=hk2'.size;omega)).trans (Ft.block k hkl fun h=>h)⟩
 revert hk14
 exact kz.1):p:=h ⟨k⟩
theorem Pkz{p q:Prop}(k:q)(h:Hd q->p:=by
 intro kz
 refine Fgc ?_
 have hk14:Ar u1 (Jg u3 (u1.at d0).heap.size x) (fun _=>False):=⟨Ia.os.trans Ft.os,Ia.tape.trans Ft.tape,Ia.output.trans Ft.output,aE Ft.size Ia.size,fun k hkl _=>(Ia.block k (aB hkl Ft.size) (fun h=>by have h2:=hle;omega)).trans (Ft.block k hkl fun h=>h)⟩
 revert hk14
 exact kz.1):p:=h ⟨k⟩
theorem Lk6{p:Prop}(h:p:=by
 refine Pkz ?_;intro hk14
 exact A6.all Aa ⟨rfl,_,rfl,hle,T4.blk,hk14,W3.set T4 (by unfold Jg;exact NF.setCell (NF.setCell (NF.setCell (NF.setCell (NF.setCell (NF.setCell W3.nf _ _) _ _) _ _) _ _) _ _) _ _)⟩ _):p:=h
theorem Gkz{p:Prop}(h:p:=by
 refine Sno ?_;intro hk14
 exact A6.all Aa ⟨rfl,_,rfl,hk2'.size,T4.blk,hk14,W3.set T4 (by unfold Jg;exact NF.setCell (NF.setCell (NF.setCell (NF.setCell (NF.setCell (NF.setCell W3.nf _ _) _ _) _ _) _ _) _ _) _ _)⟩ _):p:=h
namespace Go.Proofs.YtjoblhlkfmeckaaGreatDoor
open Go Go.Conc Go.Pair Go.RowKit Go.Maps
abbrev ints(zs:List Int):List tj:=zs.map fun z=>rl tz z
abbrev Fp(ss:List (Int×Nat)):List (tj×tj):=ss.map fun q=>(rl tz q.1,om (lp ⟨q.2,0,od⟩))
section
variable {J:Loc->Prop} {Bs:Nat->Prop} {Stop:Goroutine->qq->Prop} {u:qq}
structure Sy(J:Loc->Prop)(Bs:Nat->Prop)(u:qq)(bx bl l it sm:Nat)(lo:Loop)(ss:List (Int×Nat))(zs:List Int)(R:List (Int×Nat))(w:qq):Prop where
 kept:Ar u w (fun _=>False)
 W:VW J Bs w
 loop:E7 w l lo
 dfr:w.heap[bl]? = lp (.deferred (lp []))
 rng:Om w sm it (Fp ss) (Fp R)
 box:∃sv,w.heap[bx]? = lp (ye #[sv] 248)/\w.ownsRow (it+1) 3 1 sv zs.length (ints zs)
theorem Sy.at{bx bl l it sm:Nat}{lo:Loop}{ss:List (Int×Nat)}{zs:List Int}{R:List (Int×Nat)}{w:qq}(H:Sy J Bs u bx bl l it sm lo ss zs R w)(d:Nat):Sy J Bs u bx bl l it sm lo ss zs R (w.at d):=⟨H.kept.at d,H.W.at d,H.loop,H.dfr,H.rng.keep rfl rfl,H.box⟩
theorem Zt{α β:Type}[DecidableEq α](f:α->β):∀{l:List β} {Z:List α},l.Perm (Z.map f)->∃Z':List α,l=Z'.map f/\Z'.Perm Z
 | [],Z,h=>by
  have:Z.map f = []:=h.symm.eq_nil
  rw [List.map_eq_nil_iff] at this
  subst this
  exact⟨[],rfl,.refl _⟩
 | p :: l,Z,h=>by
  obtain⟨q,hq,rfl⟩:=bE.1 (h.mem_iff.1 eI)
  have h1:Z.Perm (q :: Z.erase q):=List.perm_cons_erase hq
  have h2:(f q :: l).Perm (f q :: (Z.erase q).map f):=h.trans (h1.map f)
  obtain⟨Z',rfl,h3⟩:=Zt f (h2.cons_inv)
  exact⟨q :: Z',rfl,(h3.cons q).trans h1.symm⟩
theorem ED{p:tj×tj}{R':List (tj×tj)}{R:List (Int×Nat)}(h:(p :: R').Perm (Fp R)):∃(q:Int×Nat) (R2:List (Int×Nat)),p=(rl tz q.1,om (lp ⟨q.2,0,od⟩))/\R'=Fp R2/\(q :: R2).Perm R:=by
 obtain⟨Z,hZp,hZ⟩:=Zt (fun q:Int×Nat=>((rl tz q.1,om (lp ⟨q.2,0,od⟩)):tj×tj)) h
 cases Z with
 | nil=>cases hZp
 | cons q Z=>
  simp only [bY,bV] at hZp
  exact⟨q,Z,hZp.1,hZp.2,hZ⟩
section
variable {P:Program} {main:Bool} {v v':qq} {f:FuncId} {l:Nat} {tmps:Array tj} {k:List Item} {cs:List Frame} {ops:Array Oper} {i:Nat} {rest:List Nat} {o:Oper} {x:tj} {S:Env}
theorem EV.ropP(ho:ops[i]? = lp o)(hw:br o (yielded ops tmps)=s7)(hd:∀c,o.op≠.defer c)(hr:∀w,(execOp (rev tmps).eval o).run P w=.ok (.value x) w)(he:∀w,(execOp (rev tmps).eval o).events P w #[]=#[])(h:EV P main J Stop (G (Hw l f (Gc o.dst x tmps) (.inRegion ops rest :: k)) cs) v):EV P main J Stop (G (Hw l f tmps (.inRegion ops (i :: rest) :: k)) cs) v:=
 EV.ropR ho hw hd fun d=>⟨x,v.at d,AG hr he,EV.at h d⟩
theorem EV.ropE(ho:ops[i]? = lp o)(hw:br o (yielded ops tmps)=s7)(hd:∀c,o.op≠.defer c)(hT:Sj P S f o)(Ga:S.reg f tmps)(hr:∀d,Go.Pair.Yields P (execOp (rev tmps).eval o) (v.at d) x (v'.at d))(he:∀d,∀e∈(execOp (rev tmps).eval o).events P (v.at d) #[],EvJ J v'.heap.size e)(h:EV P main J Stop (G (Hw l f (Gc o.dst x tmps) (.inRegion ops rest :: k)) cs) v'):EV P main J Stop (G (Hw l f tmps (.inRegion ops (i :: rest) :: k)) cs) v:=
 EV.rop ho hw hd hT Ga fun d=>⟨x,v'.at d,hr d,he d,EV.at h d⟩
theorem QG(hT:Sj P S f o)(Ga:S.reg f tmps):Ev P (Ta P S) (execOp (rev tmps).eval o) (fun _=>False):=by
 have:=hT.tame (Hw 0 f tmps []) Ga
 rwa [Qh] at this
theorem EV.ropL(ho:ops[i]? = lp o)(hw:br o (yielded ops tmps)=s7)(hd:∀c,o.op≠.defer c)(hT:Sj P S f o)(Ga:S.reg f tmps)(hJ:LH J Bs)(hc:∀i,Bs i->Em v i){R:tj->qq->Prop}(H:∀L,Cq Bs v L->∃x L',Go.Pair.Yields P (execOp (rev tmps).eval o) L x L'/\R x L')(Bo:∀x v' L',Kept Bs v v'->Cq Bs v' L'->R x L'->EV P main J Stop (G (Hw l f (Gc o.dst x tmps) (.inRegion ops rest :: k)) cs) v'):EV P main J Stop (G (Hw l f tmps (.inRegion ops (i :: rest) :: k)) cs) v:=
 EV.ropR ho hw hd fun d=>let⟨x,v',L',h1,h2,h3,h4⟩:=Qi (QG hT Ga) hJ hc H d;⟨x,v',h1,Bo x v' L' h2 h3 h4⟩
end
noncomputable def LV:Code:=match f210.body with|some (.seq _ (.seq (.seq _ (.block _ (.rangeFunc _ _ c _))) _))=>c|_=>.skip
noncomputable def MB:Code:=match f210.body with|some (.seq _ (.seq (.seq _ (.block _ (.rangeFunc _ _ _ c))) _))=>c|_=>.skip
noncomputable abbrev Gn(bx bl:Nat)(seq:tj):Loop:={ state:=.ready,pending:=od,fn:=210,tmps:=#[cf od 0 0,seq,om (lp ⟨bx,0,od⟩),yj,cf od 0 0,yj,seq,yj,yj,yj,yj,yj,yj],params:=#[7],assign:=LV,body:=MB,defers:=bl }
theorem rn:(∀(a:Array tj) (i:Nat) d,a.getD i d=a[i]?.getD d)/\(∀(l:List tj) (i:Nat),l.toArray[i]? = l[i]?)/\(∀(a:tj) l (i:Nat),(a :: l)[i+1]? = l[i]?)/\(∀(a:tj) l,(a :: l)[0]? = lp a)/\(∀a d:tj,(lp a).getD d=a)/\(∀l:List tj,l.toArray.size=l.length)/\(∀(a:tj) l,(a :: l).length=l.length+1)/\([]:List tj).length=0/\(∀(l:List tj) i a,l.toArray.setIfInBounds i a=(l.set i a).toArray)/\(∀(a:tj) l i b,(a :: l).set (i+1) b=a :: l.set i b)/\∀(a:tj) l b,(a :: l).set 0 b=b :: l:=by
 refine⟨?_,?_,?_,?_,?_,?_,?_,?_,?_,?_,?_⟩ <;> intros <;> first|rfl|simp
theorem Fq(v:qq){l:Nat}(r:Loop){i:Nat}(hi:i≠l):(Ey v l r).heap[i]? = v.heap[i]?:=aD (bW hi)
theorem U0{v:qq}{l:Nat}{o:Obj}(h:v.heap[l]? = lp o)(r:Loop):E7 (Ey v l r) l r:=aS (ltOf h)
theorem VW.setL{w:qq}(W:VW J Bs w){l:Nat}(nl:¬Bs l)(r:Loop):VW J Bs (Ey w l r):=
 ⟨NF.setObj W.nf (o:=.loop r) trivial _,fun i hi=>by unfold Em;rw [Fq w r (fun e=>by subst e;exact nl hi)];exact W.rc i hi,W.ji⟩
theorem Ar.setL{w w':qq}{X:Nat->Prop}(h:Ar w w' X){l:Nat}(hl:w.heap.size<=l)(r:Loop):Ar w (Ey w' l r) X:=
 ⟨h.os,h.tape,h.output,by rw [Jo];exact h.size,fun k hk hx=>(Fq w' r Ab).trans (h.block k hk hx)⟩
theorem Tryz.info3:(prog.info? 3).map (fun i=>(i.zero,i.size,i.bytes))=lp (lp (rl tz 0),1,8):=Aa
theorem Uz(w:qq)(base g:Nat)(sv:tj)(zs:List Int)(z:Int)(ho:w.ownsRow base 3 1 sv zs.length (ints zs))(hg:w.heap[g]? = lp (ye #[rl tz z] 3))(hl:zs.length<=100)(hb:base<=w.heap.size) :
  ∃ov w',(Builtin.append_ #[248,248] 248 #[sv,cf (lp ⟨g,0,od⟩) 1 1]).run ly w=.ok ov w'/\w'.ownsRow base 3 1 ov (zs ++ [z]).length (ints (zs ++ [z]))/\Ar w w' (fun i=>sv.ownBlock=lp i):=by
 obtain⟨i0,hi0,hz0,hz1,hz2⟩:=info_parts Tryz.info3
 have hnews:∀(j:Nat) (u:tj),([rl tz z]:List tj)[j]? = lp u->w.cell? ((⟨g,0,od⟩:Addr).add j)=lp u:=fun j u hu=>by
  rw [Addr.add_lit,aM]
  cases j with
  | zero=>simp at hu;subst hu;exact cellOf (j:=0) hg rfl
  | succ j=>simp at hu
 obtain⟨v',w',hr,h2,h3,h4⟩:=run_append_own (P:=ly) w base 248 248 3 i0 _ 1 8 underlying248 hi0 hz0 hz1 hz2 rfl Ad sv zs.length (ints zs) ho ⟨g,0,od⟩ 1 1 [rl tz z] rfl hnews (by intro u hu;simp at hu;subst hu;rfl) (by simp only [maxLen];omega) Ab hb
 refine⟨v',w',hr,by simpa [ints] using h2,h3.os,h3.tape,h3.output,h3.size,fun k hk hx=>h3.block k hk fun e=>hx e.symm⟩
theorem PO{bx bl l it sm:Nat}{seq:tj}{ss R:List (Int×Nat)}{zs:List Int}{w:qq}(z:Int)(hux:u.heap.size<=bx)(hul:u.heap.size<=l)(hbx:bx<it)(hxl:bx≠l)(nJl:¬J (.obj l))(nl:¬Bs l)(nbx:¬Bs bx)(hll:l<it)(hsm:sm<u.heap.size)(hbl:bl<it)(hbll:bl≠l)(hbxl:bl≠bx)(H:Sy J Bs u bx bl l it sm (Gn bx bl seq) ss zs R w)(c:Frame)(cs:List Frame)(hlen:zs.length<=99)(hBu:∀i,Bs i->i<u.heap.size)(Bo:∀w',Ar u w' (fun _=>False)->VW J Bs w'->E7 w' l (Gn bx bl seq)->w'.heap[bl]? = lp (.deferred (lp []))->Om w' sm it (Fp ss) (Fp R)->(∃sv,w'.heap[bx]? = lp (ye #[sv] 248)/\w'.ownsRow (it+1) 3 1 sv (zs ++ [z]).length (ints (zs ++ [z])))->EV ly s7 J Stop (G (c.finish (.bool s7)) cs) w') :
  EV ly s7 J Stop (G (Hw l 210 #[cf od 0 0,seq,om (lp ⟨bx,0,od⟩),yj,cf od 0 0,yj,seq,rl tz z,yj,yj,yj,yj,yj] [.code LV,.beginRound,.code MB]) (c :: cs)) w:=by
 unfold LV MB
 simp only [f210]
 refine Tk1 ?_
 refine Xin ?_
 refine EV.ctl rfl rfl (fun w=>Nx) ?_
 refine EV.begin H.loop rfl nJl fun d0=>?_
 obtain⟨sv,hb,ho⟩:=H.box
 have W0:=(H.W.at d0).setL nl { Gn bx bl seq with state:=.busy }
 have K0:=(H.kept.at d0).setL hul { Gn bx bl seq with state:=.busy }
 have L0:=U0 (v:=w.at d0) H.loop { Gn bx bl seq with state:=.busy }
 have G0:∀i,i≠l->(Ey (w.at d0) l { Gn bx bl seq with state:=.busy }).heap[i]? = w.heap[i]?:=fun i hi=>Fq (w.at d0) _ hi
 generalize Ey (w.at d0) l { Gn bx bl seq with state:=.busy }=v0 at W0 K0 L0 G0 ⊢
 have hsz0:it+1<=v0.heap.size:=by
  obtain⟨_,_,_,_,_,_,_,_,h,_⟩:=H.rng.ex
  have:=ltOf ((G0 it Ab).trans h)
  omega
 have hb0:=(G0 bx hxl).trans hb
 have ho0:v0.ownsRow (it+1) 3 1 sv zs.length (ints zs):=D8 ho fun g hg _=>G0 g Ab
 refine EV.ctl rfl rfl (fun w=>JO) ?_
 refine Tk1 ?_
 have jbx:¬J (.cell ⟨bx,0,od⟩):=fun h=>nbx (W0.ji.cell _ h)
 refine EV.ropE (S:=env Lv) rfl Ac (by intro c h;cases h) (Dp Aa) (Bg _ _) (x:=sv) (v':=v0) (fun d=>af (by have hc:(v0.at d).cell? ⟨bx,0,od⟩=lp sv:=cellOf (j:=0) hb0 rfl;simp only [Gc,rev,cj,rn,aU,aK,aI,Nat.reduceAdd,bB,aX,aY,qw,an,aM];go_simp)) (fun d=>by have hc:(v0.at d).cell? ⟨bx,0,od⟩=lp sv:=cellOf (j:=0) hb0 rfl;simp only [Gc,rev,cj,rn,aU,aK,aI,Nat.reduceAdd,bB,aX,aY,qw,an,aM];intro e he;simp [go_sem,hc] at he;subst he;exact⟨jbx,ltOf hb0⟩) ?_
 simp only [Gc,rev,cj,rn,aU,aK,aI,Nat.reduceAdd,bB,aX,aY,qw,an,aM]
 refine Xin ?_
 refine EV.ropE (S:=env Lv) rfl Ac (by intro c h;cases h) (Dp Aa) (Bg _ _) (x:=cf (lp ⟨v0.heap.size,0,od⟩) 1 1) (v':=v0.alloc (ye #[rl tz z] 3)) (fun d=>af (by simp only [Gc,rev,cj,rn,aU,aK,aI,Nat.reduceAdd,bB,aX,aY,qw,an,aM];go_simp;first|done|rfl|exact⟨rfl,rfl⟩)) (fun d=>by simp only [Gc,rev,cj,rn,aU,aK,aI,Nat.reduceAdd,bB,aX,aY,qw,an,aM];intro e he;simp [go_sem] at he) ?_
 simp only [Gc,rev,cj,rn,aU,aK,aI,Nat.reduceAdd,bB,aX,aY,qw,an,aM]
 have K1:=B8 v0 #[rl tz z] 3 (fun _=>False)
 have W1:=W0.alloc #[rl tz z] 3
 have F7:(v0.alloc (ye #[rl tz z] 3)).heap[v0.heap.size]? = lp (ye #[rl tz z] 3):=tw _ _
 generalize v0.alloc (ye #[rl tz z] 3)=v1 at K1 W1 F7 ⊢
 have ho1:v1.ownsRow (it+1) 3 1 sv zs.length (ints zs):=D8 ho0 fun g hg hgl=>K1.block g hgl id
 have nr:¬Bs v0.heap.size:=fun h=>by have:=W0.lt h;omega
 refine EV.ropL (S:=env Lv) (Bs:=Bs) rfl Ac (by intro c h;cases h) (Dp Aa) (Bg _ _) W1.ji W1.rc (R:=fun ov L'=>∃L,Cq Bs v1 L/\L'.ownsRow (it+1) 3 1 ov (zs ++ [z]).length (ints (zs ++ [z]))/\Ar L L' (fun i=>sv.ownBlock=lp i)) (fun L hs=>?_) ?_
 ·obtain⟨ov,w',hr,h1,h2⟩:=Uz L (it+1) v0.heap.size sv zs z (D8 ho1 fun g hg hgl=>hs.same W1.nf fun hB=>by have:=hBu g hB;omega) ((hs.same W1.nf nr).trans F7) Ab (by rw [hs.size];have:=K1.size;omega)
  refine⟨ov,w',af ?_,L,hs,h1,h2⟩
  simp only [Gc,rev,cj,rn,aU,aK,aI,Nat.reduceAdd,bB,aX,aY,qw,an,aM]
  unfold execOp
  simp only [resolve,invoke,builtin,Sem.run_bind,Sem.run_pure,Result.andThen_ok,dG,bY,dR]
  simp only [Gc,rev,cj,rn,aU,aK,aI,Nat.reduceAdd,bB,aX,aY,qw,an,aM]
  rw [hr]
  rfl
 rintro ov v2 L' hKept hSim ⟨L,hs,ho2',hX⟩
 simp only [Gc,rev,cj,rn,aU,aK,aI,Nat.reduceAdd,bB,aX,aY,qw,an,aM]
 have hn2:=hKept.nf W1.nf
 have K2:Ar v1 v2 (fun i=>sv.ownBlock=lp i):=Ks W1.nf hs hKept hSim hX
 have W2:VW J Bs v2:=W1.kx (fun i hi=>hKept.keep i hi) hn2
 have ho2:v2.ownsRow (it+1) 3 1 ov (zs ++ [z]).length (ints (zs ++ [z])):=D8 ho2' fun g hg _=>(hSim.same hn2 fun hB=>by have:=hBu g hB;omega).symm
 have Db:∀i,sv.ownBlock=lp i->it+1<=i:=fun i hi=>by
  rcases ho1 with⟨_,⟨rfl,_⟩|⟨g,cap,cur,rfl,hg,_⟩⟩
  ·cases hi
  ·simp [Value.ownBlock] at hi
   omega
 have G2:∀i,i<it+1->i≠l->v2.heap[i]? = w.heap[i]?:=fun i hi hl=>(K2.block i (by have:=K1.size;omega) (fun h=>by have:=Db i h;omega)).trans ((K1.block i Ab id).trans (G0 i hl))
 have L2:E7 v2 l { Gn bx bl seq with state:=.busy }:=(K2.block l (by have:=K1.size;omega) (fun h=>by have:=Db l h;omega)).trans ((K1.block l Ab id).trans L0)
 have Fs:v2.heap[bx]? = lp (ye #[sv] 248):=(G2 bx Ab hxl).trans hb
 obtain⟨oa,on,oc,rfl⟩:∃a k c,ov=cf a k c:=by
  rcases ho2 with⟨_,⟨rfl,_⟩|⟨g,cap,cur,rfl,_⟩⟩ <;> exact⟨_,_,_,rfl⟩
 refine EV.ropE (S:=env Lv) rfl Ac (by intro c h;cases h) (Dp Aa) (Bg _ _) (x:=yj) (v':=v2.setCell ⟨bx,0,od⟩ (cf oa on oc)) (fun d=>o5 ⟨by have hc:(v2.at d).cell? ⟨bx,0,od⟩=lp sv:=cellOf (j:=0) Fs rfl;have hf:(v2.at d).frozen? ⟨bx,0,od⟩=false:=Ay (W:=v2) (j:=0) Fs;simp only [Gc,rev,cj,rn,aU,aK,aI,Nat.reduceAdd,bB,aX,aY,qw,an,aM];go_simp;first|done|rfl,rfl⟩) (fun d=>by have hc:(v2.at d).cell? ⟨bx,0,od⟩=lp sv:=cellOf (j:=0) Fs rfl;have hf:(v2.at d).frozen? ⟨bx,0,od⟩=false:=Ay (W:=v2) (j:=0) Fs;simp only [Gc,rev,cj,rn,aU,aK,aI,Nat.reduceAdd,bB,aX,aY,qw,an,aM];intro e he;simp [go_sem,hc,hf,events_store _ _ _ _ (Value.slice _ _ _) Mode.plain rfl,storedEv] at he;subst he;exact⟨jbx,by rw [size_setCell];exact ltOf Fs⟩) ?_
 simp only [Gc,rev,cj,rn,aU,aK,aI,Nat.reduceAdd,bB,aX,aY,qw,an,aM]
 have T3:Bn v2 (v2.setCell ⟨bx,0,od⟩ (cf oa on oc)) bx #[cf oa on oc] 248:=(Bn.refl Fs).set 0 _
 have W3:VW J Bs (v2.setCell ⟨bx,0,od⟩ (cf oa on oc)):=W2.set T3 (NF.setCell W2.nf _ _)
 generalize v2.setCell ⟨bx,0,od⟩ (cf oa on oc)=v3 at T3 W3 ⊢
 have G3:∀i,i<v2.heap.size->i≠bx->v3.heap[i]? = v2.heap[i]?:=fun i hi Cu=>T3.grown.block i hi (fun h=>Cu Ah)
 have hsz2:it+1<=v2.heap.size:=by have:=K1.size;have:=K2.size;omega
 have L3:E7 v3 l { Gn bx bl seq with state:=.busy }:=(G3 l Ab (bW hxl)).trans L2
 refine EV.ctl rfl rfl (fun w=>Nx) ?_
 refine EV.ctl rfl rfl (fun w=>AF) ?_
 refine EV.endRound L3 nJl fun d1=>?_
 have K03:Ar u v3 (fun _=>False):=by
  refine⟨T3.grown.os.trans (K2.os.trans (K1.os.trans K0.os)),T3.grown.tape.trans (K2.tape.trans (K1.tape.trans K0.tape)),T3.grown.output.trans (K2.output.trans (K1.output.trans K0.output)),aE (aE (aE K0.size K1.size) K2.size) T3.grown.size,fun k hk _=>?_⟩
  rw [G3 k (by have:=K0.size;have:=K1.size;have:=K2.size;omega) Ab,G2 k Ab Ab]
  exact H.kept.block k hk id
 refine Bo _ ((K03.at d1).setL hul _) ((W3.at d1).setL nl _) (U0 (v:=v3.at d1) L3 _) ?_ ?_ ⟨cf oa on oc,?_,?_⟩
 ·rw [Fq (v3.at d1) _ hbll]
  show v3.heap[bl]? = _
  rw [G3 bl Ab hbxl,G2 bl Ab hbll]
  exact H.dfr
 ·refine H.rng.keep ?_ ?_
  ·rw [Fq (v3.at d1) _ Ab]
   show v3.heap[sm]? = _
   rw [G3 sm Ab Ab,G2 sm Ab Ab]
  ·rw [Fq (v3.at d1) _ Ab]
   show v3.heap[it]? = _
   rw [G3 it Ab Ab,G2 it Ab Ab]
 ·rw [Fq (v3.at d1) _ hxl]
  exact T3.blk
 ·refine D8 ho2 fun g hg hgl=>?_
  rw [Fq (v3.at d1) _ Ab]
  exact G3 g hgl Ab
theorem Abf(A:Array tj)(v:tj):((#[7]:Array Tmp).zip #[v]).foldl (fun tmps x=>tmps.setIfInBounds x.1 x.2) A=A.setIfInBounds 7 v:=by
 have:(#[7]:Array Tmp).zip #[v]=#[(7,v)]:=Ae
 rw [this]
 simp
noncomputable def Aax:Code:=match f195.body with|some c=>c|none=>.skip
theorem TM{u2:qq}(W2:VW J Bs u2)(hBu:∀i,Bs i->i<u.heap.size)(K02:Ar u u2 (fun _=>False))(bx bl l sm mbx:Nat)(seq:tj)(ss:List (Int×Nat))(h8:ss.length<=99)(hux:u.heap.size<=bx)(hul:u.heap.size<=l)(hub:u.heap.size<=bl)(hxl:bx≠l)(hbll:bl≠l)(hbxl:bl≠bx)(hsm:sm<u.heap.size)(nsm:¬Bs sm)(nmx:¬Bs mbx)(L2:E7 u2 l (Gn bx bl seq))(D2:u2.heap[bl]? = lp (.deferred (lp [])))(Fs:u2.heap[bx]? = lp (ye #[cf od 0 0] 248))(hm:Bm ly 3 u2 sm (Fp ss))(hx:u2.heap[mbx]? = lp (ye #[.map (lp sm)] 82)) :
  N5 ly s7 J Stop 195 Aax (fun e a' w'=>(e=.normal∨e=.ret)/\a'.defers = []/\∃it zs,Sy J Bs u bx bl l it sm (Gn bx bl seq) ss zs [] w'/\zs.Perm (ss.map xo)/\bx<it/\bl<it/\l<it) ⟨#[.func (.yield l) #[] #[],om (lp ⟨mbx,0,od⟩),yj,yj,yj,yj,yj,yj,yj,yj,yj,yj,yj,yj],[]⟩ u2:=by
 have nl:¬Bs l:=fun h=>by have:=hBu l h;omega
 have nbx:¬Bs bx:=fun h=>by have:=hBu bx h;omega
 have nJl:¬J (.obj l):=fun h=>nl (W2.ji.obj l h)
 unfold Aax
 simp only [f195]
 refine Fck ?_
 refine Bq (cellOf (j:=0) hx rfl) (fun h=>nmx (W2.ji.cell _ h)) (ltOf hx) ?_;walk_nrm
 refine Lz (S:=env Lv) (Bs:=Bs) rfl Ac (Dp Aa) (Bg _ _) W2.ji W2.rc (R:=fun x L'=>x=om (lp ⟨u2.heap.size,0,od⟩)/\∃L,Cq Bs u2 L/\Om L' sm u2.heap.size (Fp ss) (Fp ss)/\Ar L L' (fun _=>False)) (fun L hs=>?_) ?_
 ·obtain⟨o,hr,hR⟩:=Bm.rangeL (hm.of_block (hs.same W2.nf nsm)) underlying82
  rw [hs.size] at hr hR
  refine⟨_,_,af ?_,rfl,L,hs,hR,Ar.of_below (Bh _ _) (aA _)⟩
  exact B7l
 rintro x u3 L' hk hs' ⟨rfl,L,hs,hR',hX⟩
 walk_nrm
 refine Am ?_
 have W3:VW J Bs u3:=W2.kx (fun i hi=>hk.keep i hi) (hk.nf W2.nf)
 have K23:Ar u2 u3 (fun _=>False):=Ks W2.nf hs hk hs' hX
 have nit:¬Bs u2.heap.size:=fun h=>by have:=W2.lt h;omega
 have H3:Sy J Bs u bx bl l u2.heap.size sm (Gn bx bl seq) ss [] ss u3:=by
  refine⟨K02.trans K23,W3,K23.get L2 id,K23.get D2 id,hR'.keep (hs'.same W3.nf nsm).symm (hs'.same W3.nf nit).symm,⟨_,K23.get Fs id,rfl,af ⟨rfl,rfl⟩⟩⟩
 have b1:=ltOf Fs
 have b2:=ltOf D2
 have b3:l<u2.heap.size:=ltOf L2
 refine Dt ?_
 refine QX (n:=ss.length) (I:=fun n a w=>∃zs R j3 j6 j7 j8 j9 j10 j11 j12 j13,n=R.length/\zs.length+R.length<=99/\(zs++R.map xo).Perm (ss.map xo)/\a=⟨#[.func (.yield l) #[] #[],om (lp ⟨mbx,0,od⟩),yj,j3,.map (lp sm),om (lp ⟨u2.heap.size,0,od⟩),j6,j7,j8,j9,j10,j11,j12,j13],[]⟩/\Sy J Bs u bx bl l u2.heap.size sm (Gn bx bl seq) ss zs R w) ?_ ⟨[],ss,yj,yj,yj,yj,yj,yj,yj,yj,yj,rfl,by simpa using h8,by rw [aP],rfl,H3⟩
 rintro n a w ⟨zs,R,j3,j6,j7,j8,j9,j10,j11,j12,j13,rfl,hzl,hperm0,rfl,H⟩
 refine Fck ?_
 refine Lz (S:=env Lv) (Bs:=Bs) rfl Ac (Dp Aa) (Bg _ _) H.W.ji H.W.rc (R:=fun x L'=>∃L,Cq Bs w L/\Ar L L' (· = u2.heap.size)/\((R = []/\x=fh #[.bool false]/\Om L' sm u2.heap.size (Fp ss) (Fp R))∨∃q R2,(q :: R2).Perm R/\x=fh #[.bool s7,rl tz q.1,om (lp ⟨q.2,0,od⟩)]/\Om L' sm u2.heap.size (Fp ss) (Fp R2)/\∀x:qq,x.heap[sm]? = L'.heap[sm]?->x.heap[u2.heap.size]? = L'.heap[u2.heap.size]?->(Instr.entry (om (lp ⟨u2.heap.size,0,od⟩))).run ly x=.ok (fh #[rl tz q.1,om (lp ⟨q.2,0,od⟩)]) x)) (fun L hs=>?_) ?_
 ·rcases Om.next (P:=ly) (H.rng.keep (hs.same H.W.nf nsm) (hs.same H.W.nf nit)) 0 with⟨h0,hr⟩|⟨p,R',hperm,L',hr,hR,hg,Di,hent⟩
  ·have hR0:R = []:=List.map_eq_nil_iff.1 h0
   refine⟨fh #[.bool false],L,af ?_,L,hs,Ar.refl _ _,af ⟨hR0,rfl,H.rng.keep (hs.same H.W.nf nsm) (hs.same H.W.nf nit)⟩⟩
   exact B7l
  ·obtain⟨q,R2,rfl,rfl,hp2⟩:=ED hperm
   refine⟨_,L',af ?_,L,hs,Ar.of_grown hg (af rfl),o5 ⟨q,R2,hp2,rfl,hR,hent⟩⟩
   exact B7l
 rintro x u4 L4 Ia hs4 ⟨L,hsL,hX4,hcase⟩
 walk_nrm
 have W4:VW J Bs u4:=H.W.kx (fun i hi=>Ia.keep i hi) (Ia.nf H.W.nf)
 have K4:Ar w u4 (· = u2.heap.size):=Ks H.W.nf hsL Ia hs4 hX4
 have hitl:u2.heap.size<w.heap.size:=by
  obtain⟨_,_,_,_,_,_,_,_,h,_⟩:=H.rng.ex
  exact ltOf h
 have hK4:Ar u u4 (fun _=>False):=⟨K4.os.trans H.kept.os,K4.tape.trans H.kept.tape,K4.output.trans H.kept.output,aE H.kept.size K4.size,fun k hk hx=>(K4.block k (aB hk H.kept.size) (by have:=K02.size;omega)).trans (H.kept.block k hk hx)⟩
 obtain⟨sv,hbw,how⟩:=H.box
 have L4':=K4.get H.loop Ab
 have D4:=K4.get H.dfr Ab
 have B4:=K4.get hbw Ab
 have O4:u4.ownsRow (u2.heap.size+1) 3 1 sv zs.length (ints zs):=D8 how fun g hg hgl=>K4.block g hgl Ab
 rcases hcase with⟨rfl,rfl,hR4⟩|⟨q,R2,hp2,rfl,hR4,hent⟩
 ·have H4:Sy J Bs u bx bl l u2.heap.size sm (Gn bx bl seq) ss zs [] u4:=⟨hK4,W4,L4',D4,hR4.keep (hs4.same W4.nf nsm).symm (hs4.same W4.nf nit).symm,⟨sv,B4,O4⟩⟩
  refine Pdv ?_
  refine Aw ?_
  refine Fr7 ?_
  refine Kj ?_
  simp only [Az,As,bC]
  exact⟨af trivial,trivial,u2.heap.size,zs,H4,by simpa using hperm0,b1,b2,b3⟩
 ·have R4:Om u4 sm u2.heap.size (Fp ss) (Fp R2):=hR4.keep (hs4.same W4.nf nsm).symm (hs4.same W4.nf nit).symm
  refine Pdv ?_
  refine Aw ?_
  refine Bi (t:=s7) Ac ?_;simp only [bC,bQ,aV]
  refine Dbh ?_
  refine Dt ?_
  refine Fck ?_
  refine Lz (S:=env Lv) (Bs:=Bs) rfl Ac (Dp Aa) (Bg _ _) W4.ji W4.rc (R:=fun x L'=>x=fh #[rl tz q.1,om (lp ⟨q.2,0,od⟩)]/\Cq Bs u4 L') (fun L hs=>?_) ?_
  ·have hr:=hent L ((hs.same W4.nf nsm).trans (hs4.same W4.nf nsm).symm) ((hs.same W4.nf nit).trans (hs4.same W4.nf nit).symm)
   exact H3l
  rintro x u5 L5 hk5 hs5 ⟨rfl,hsu⟩
  have W5:VW J Bs u5:=W4.kx (fun i hi=>hk5.keep i hi) (hk5.nf W4.nf)
  have K5:Ar u4 u5 (fun _=>False):=Ks W4.nf hsu hk5 hs5 (Ar.refl _ _)
  walk_nrm
  refine Lh6 ?_
  refine Am ?_
  refine Fck ?_
  refine Lh6 ?_
  have H5:Sy J Bs u bx bl l u2.heap.size sm (Gn bx bl seq) ss zs R2 u5:=⟨hK4.trans K5,W5,K5.get L4' id,K5.get D4 id,R4.keep (K5.block _ (by have:=K4.size;have:=K02.size;omega) id) (K5.block _ (by have:=K4.size;omega) id),⟨sv,K5.get B4 id,D8 O4 fun g hg hgl=>K5.block g hgl id⟩⟩
  have hlen2:R2.length+1=R.length:=by have:=hp2.length_eq;simpa using this
  refine DF (r:=Gn bx bl seq) (l:=l) (Post:=fun w'=>Sy J Bs u bx bl l u2.heap.size sm (Gn bx bl seq) ss (zs ++ [q.1]) R2 w') rfl Ac rfl Ac H5.loop Ac nJl (fun d c cs hn=>?_) ?_
  ·have hrd:=PO (J:=J) (Bs:=Bs) (Stop:=Stop) (seq:=seq) q.1 hux hul b1 hxl nJl nl nbx b3 hsm b2 hbll hbxl (H5.at d) c cs Ab hBu (fun w' h1 h2 h3 h4 h5 h6=>hn w' ⟨h1,h2,h3,h4,h5,h6⟩)
   walk_nrm
   rw [Abf]
   exact hrd
  ·intro w' H'
   walk_nrm
   refine Pdv ?_
   refine Fr7 ?_
   refine Cz ?_
   simp only [Az,As]
   refine⟨R2.length,Ab,zs ++ [q.1],R2,_,_,_,_,_,_,_,_,_,rfl,Ag,?_,rfl,H'⟩
   rw [bM]
   exact((hp2.map xo).append_left zs).trans hperm0
theorem BU(W:VW J Bs u)(sm mbx:Nat)(ss:List (Int×Nat))(hm:Bm ly 3 u sm (Fp ss))(nm:¬Bs sm)(hx:u.heap[mbx]? = lp (ye #[.map (lp sm)] 82))(nx:¬Bs mbx)(h8:ss.length<=99) :
  Bz ly s7 J Stop 210 #[cf od 0 0,.func (.func 195) #[] #[om (lp ⟨mbx,0,od⟩)]] u fun x u'=>Ar u u' (fun _=>False)/\VW J Bs u'/\∃zs:List Int,zs.Perm (ss.map xo)/\u'.ownsRow u.heap.size 3 1 x zs.length (ints zs):=by
 refine Tn func210 Ac rfl (R:=fun tmps=>tmps.getD 4 yj) (fun _ _=>yi Ac _ _ _) (fun _ _=>qz Ac _ _) ?_
 simp only [ntmps210,na,Nat.reduceAdd,Nat.reduceSub]
 refine Fck ?_
 refine E9 #[cf od 0 0] 248 ?_;walk_nrm
 refine Pdv ?_
 have H0:=B8 u #[cf od 0 0] 248 (fun _=>False)
 have W1:=W.alloc #[cf od 0 0] 248
 have B9:(u.alloc (ye #[cf od 0 0] 248)).heap[u.heap.size]? = lp (ye #[cf od 0 0] 248):=tw _ _
 have hsz1:(u.alloc (ye #[cf od 0 0] 248)).heap.size=u.heap.size+1:=Ae
 generalize u.alloc (ye #[cf od 0 0] 248)=u1 at H0 W1 B9 hsz1 ⊢
 refine Tvw ?_
 refine Pdv ?_
 refine Dt ?_
 have njn:∀r,u1.heap.size<=r->¬J (.obj r):=fun r hr h=>by have:=W1.lt (W.ji.obj r h);omega
 have hBu:∀i,Bs i->i<u.heap.size:=fun i hi=>W.lt hi
 refine Vx (h:=195) (cap:=#[om (lp ⟨mbx,0,od⟩)]) (fun w'=>∃it zs,Sy J Bs u u.heap.size u1.heap.size (u1.heap.size+1) it sm (Gn u.heap.size u1.heap.size (.func (.func 195) #[] #[om (lp ⟨mbx,0,od⟩)])) ss zs [] w'/\zs.Perm (ss.map xo)/\u.heap.size<it/\u1.heap.size<it/\u1.heap.size+1<it) Ac func195 Ac rfl (fun _ _=>results_none Ac _ _ _) (fun _ _=>events_results_none Ac _ _) (fun d=>?_) (njn _ Ab) ?_
 ·simp only [ntmps195,na,Nat.reduceAdd,Nat.reduceSub]
  have K12:Ar u1 { u1.at d with heap:=(u1.heap.push (.deferred (lp []))).push (.loop (Gn u.heap.size u1.heap.size (.func (.func 195) #[] #[om (lp ⟨mbx,0,od⟩)]))) } (fun _=>False):=⟨rfl,rfl,rfl,Ag,fun k hk _=>by
   show((u1.heap.push _).push _)[k]? = _
   rw [cP Ag,aZ hk,Array.getElem_push_lt hk]⟩
  have W2:VW J Bs { u1.at d with heap:=(u1.heap.push (.deferred (lp []))).push (.loop (Gn u.heap.size u1.heap.size (.func (.func 195) #[] #[om (lp ⟨mbx,0,od⟩)]))) }:=⟨NF.push (v:={ u1.at d with heap:=u1.heap.push (.deferred (lp [])) }) (NF.push (v:=u1.at d) W1.nf (o:=.deferred (lp [])) trivial) (o:=.loop _) trivial,fun i hi=>by unfold Em;rw [K12.block i (W1.lt hi) id];exact W1.rc i hi,W.ji⟩
  exact TM W2 hBu (H0.trans K12) u.heap.size u1.heap.size (u1.heap.size+1) sm mbx _ ss Ab (aA _) Ab Ab Ab Ab Ab hm.lt nm nx (by show((u1.heap.push _).push _)[u1.heap.size+1]? = _;rw [show u1.heap.size+1=(u1.heap.push (Obj.deferred (lp []))).size by simp,Array.getElem?_push_size]) (by show((u1.heap.push _).push _)[u1.heap.size]? = _;rw [cP Ae];simp) (K12.get B9 id) ((hm.of_block (H0.block _ hm.lt id)).of_block (K12.block _ (by have:=hm.lt;omega) id)) (K12.get (H0.get hx id) id)
 ·rintro w' ⟨it,zs,H,hzp,h1,h2,h3⟩
  refine⟨_,H.loop,rfl,rfl,fun d=>?_⟩
  simp only [As,Az]
  obtain⟨sv,hb,ho⟩:=H.box
  have nl:¬Bs (u1.heap.size+1):=fun h=>by have:=W1.lt h;omega
  have W0:=(H.W.at d).setL nl { Gn u.heap.size u1.heap.size (.func (.func 195) #[] #[om (lp ⟨mbx,0,od⟩)]) with state:=.exhausted }
  have K0:=(H.kept.at d).setL (l:=u1.heap.size+1) Ab { Gn u.heap.size u1.heap.size (.func (.func 195) #[] #[om (lp ⟨mbx,0,od⟩)]) with state:=.exhausted }
  have G0:∀i,i≠u1.heap.size+1->(Ey (w'.at d) (u1.heap.size+1) { Gn u.heap.size u1.heap.size (.func (.func 195) #[] #[om (lp ⟨mbx,0,od⟩)]) with state:=.exhausted }).heap[i]? = w'.heap[i]?:=fun i hi=>Fq (w'.at d) _ hi
  generalize Ey (w'.at d) (u1.heap.size+1) { Gn u.heap.size u1.heap.size (.func (.func 195) #[] #[om (lp ⟨mbx,0,od⟩)]) with state:=.exhausted }=v0 at W0 K0 G0 ⊢
  have hb0:=(G0 u.heap.size Ab).trans hb
  have hd0:=(G0 u1.heap.size Ab).trans H.dfr
  have ho0:v0.ownsRow (it+1) 3 1 sv zs.length (ints zs):=D8 ho fun g hg _=>G0 g Ab
  refine Fck ?_
  refine Bq (cellOf (j:=0) hb0 rfl) (fun h=>by have:=W.lt (W.ji.cell _ h);simp at this) (ltOf hb0) ?_;walk_nrm
  refine Pdv ?_
  refine Ez ⟨o5 rfl,u1.heap.size,rfl,hd0,njn _ (aA _),fun d'=>⟨⟨K0.os,K0.tape,K0.output,by simp only [Array.size_setIfInBounds];exact K0.size,fun k hk hx=>?_⟩,⟨NF.setObj (v:=v0.at d') W0.nf (o:=.deferred od) trivial _,fun i hi=>?_,W.ji⟩,zs,hzp,?_⟩⟩
  ·show(v0.heap.setIfInBounds u1.heap.size _)[k]? = _
   rw [aD Ab]
   exact K0.block k hk hx
  ·unfold Em
   show(∃c e fz,(v0.heap.setIfInBounds u1.heap.size _)[i]? = _)∨∃o,(v0.heap.setIfInBounds u1.heap.size _)[i]? = _/\_
   rw [aD (by have:=W1.lt hi;omega)]
   exact W0.rc i hi
  ·walk_nrm
   refine Df (D8 ho0 fun g hg _=>?_) Ab
   show(v0.heap.setIfInBounds u1.heap.size _)[g]? = _
   rw [aD Ab]
theorem MQ(W:VW J Bs u)(sm mbx:Nat)(ss:List (Int×Nat))(hm:Bm ly 3 u sm (Fp ss))(nm:¬Bs sm)(hx:u.heap[mbx]? = lp (ye #[.map (lp sm)] 82))(nx:¬Bs mbx)(h8:ss.length<=99) :
  Bz ly s7 J Stop 193 #[.func (.func 195) #[] #[om (lp ⟨mbx,0,od⟩)]] u fun x u'=>Ar u u' (fun _=>False)/\VW J Bs u'/\∃zs:List Int,zs.Perm (ss.map xo)/\u'.ownsRow u.heap.size 3 1 x zs.length (ints zs):=by
 refine Br func193 Ac rfl (R:=fun tmps=>tmps.getD 2 yj) (fun _ _=>yi Ac _ _ _) (fun _ _=>qz Ac _ _) ?_
 simp only [ntmps193,na,Nat.reduceAdd,Nat.reduceSub]
 refine Fck ?_
 refine Pdv ?_
 refine Fck ?_
 refine Ak ?_
 refine By (BU W sm mbx ss hm nm hx nx h8) rfl Ac rfl (by walk_nrm) ?_
 rintro x u1 ⟨h1,h2,zs,h3,h4⟩
 walk_nrm
 refine Pdv ?_
 refine Ez ⟨o5 rfl,rfl,h1,h2,zs,h3,?_⟩
 walk_nrm
 exact h4
end
section
variable {valid:ByteArray->Bool} {Tabs:qq->Prop} {gN:Nat} {J:Loc->Prop} {Bs:Nat->Prop} {Stop:Goroutine->qq->Prop} {u:qq}
theorem Lo.sim{L:qq}{b:Nat}{ks:List tj}(h:Lo u b ks)(hn:NF u)(hs:Cq Bs u L)(h1:¬Bs b):Lo L b ks:=h.keep (hs.same hn h1)
theorem F2.kx{rb:Nat}{rc:Array tj}{rt:s8}{svb:Nat}{vc:Array tj}{w w':qq}{X:Nat->Prop}(h:F2 rb rc rt svb vc w)(hk:Ar w w' X)(h1:¬X rb)(h2:¬X svb):F2 rb rc rt svb vc w':=⟨hk.get h.1 h1,hk.get h.2 h2⟩
theorem Fx{w:qq}{rb:Nat}{kind m:Int}{p d n:ByteArray}{ver:Int}{wt:Bool}(h:w.heap[rb]? = lp (ye (Bb kind m p d n ver wt) 119))(hj:∀k,¬J (.cell ⟨rb,k,od⟩))(o:Oper)(k:Nat)(ho:o.op=.load 119 (.tmp k))(a:Act)(hk:a.eval (.tmp k)=om (lp ⟨rb,0,od⟩)) :
  Go.Pair.Yields ly (execOp a.eval o) w (Mv kind m p d n ver wt) w/\∀e∈(execOp a.eval o).events ly w #[],EvJ J w.heap.size e:=by
 obtain⟨c0,c1,c2,c3,c4,c5,c6⟩:=LD (w:=w) 0 1 2 3 4 5 6 h
 unfold execOp
 rw [ho]
 simp only [hk]
 refine⟨af ?_,fun e he=>?_⟩
 ·go_simp
 ·simp [go_sem,c0,c1,c2,c3,c4,c5,c6] at he
  rcases he with rfl|rfl|rfl|rfl|rfl|rfl|rfl <;> exact⟨hj _,ltOf h⟩
theorem FP{w:qq}{nb:Nat}{x:Nd}(h:w.heap[nb]? = lp (ye x.cs 96))(hj:∀k,¬J (.cell ⟨nb,k,od⟩))(o:Oper)(k:Nat)(ho:o.op=.load 96 (.tmp k))(a:Act)(hk:a.eval (.tmp k)=om (lp ⟨nb,0,od⟩)) :
  Go.Pair.Yields ly (execOp a.eval o) w x.val w/\∀e∈(execOp a.eval o).events ly w #[],EvJ J w.heap.size e:=by
 obtain⟨c0,c1,c2,c3,c4,c5⟩:=WO (w:=w) 0 1 2 3 4 5 h
 unfold execOp
 rw [ho]
 simp only [hk]
 refine⟨af ?_,fun e he=>?_⟩
 ·go_simp
 ·simp [go_sem,c0,c1,c2,c3,c4,c5] at he
  rcases he with rfl|rfl|rfl|rfl|rfl|rfl <;> exact⟨hj _,ltOf h⟩
def Yj(rb:Nat)(rc:Array tj)(rt:s8)(svb:Nat)(vc:Array tj)(sb:Nat)(ss:Array tj)(w:qq):Prop:=F2 rb rc rt svb vc w/\w.heap[sb]? = lp (ye ss 75)
theorem Yj.at{rb:Nat}{rc:Array tj}{rt:s8}{svb:Nat}{vc:Array tj}{sb:Nat}{ss:Array tj}(w:qq)(d:Nat)(h:Yj rb rc rt svb vc sb ss w):Yj rb rc rt svb vc sb ss (w.at d):=h
theorem Yj.kx{rb:Nat}{rc:Array tj}{rt:s8}{svb:Nat}{vc:Array tj}{sb:Nat}{ss:Array tj}{w w':qq}{X:Nat->Prop}(h:Yj rb rc rt svb vc sb ss w)(hk:Ar w w' X)(h1:¬X rb)(h2:¬X svb)(h3:¬X sb):Yj rb rc rt svb vc sb ss w':=⟨h.1.kx hk h1 h2,hk.get h.2 h3⟩
def AY(rb:Nat)(rc:Array tj)(rt:s8)(svb:Nat)(vc:Array tj)(nb:Nat)(x:Nd)(w:qq):Prop:=F2 rb rc rt svb vc w/\w.heap[nb]? = lp (ye x.cs 96)
theorem AY.at{rb:Nat}{rc:Array tj}{rt:s8}{svb:Nat}{vc:Array tj}{nb:Nat}{x:Nd}(w:qq)(d:Nat)(h:AY rb rc rt svb vc nb x w):AY rb rc rt svb vc nb x (w.at d):=h
theorem AY.kx{rb:Nat}{rc:Array tj}{rt:s8}{svb:Nat}{vc:Array tj}{nb:Nat}{x:Nd}{w w':qq}{X:Nat->Prop}(h:AY rb rc rt svb vc nb x w)(hk:Ar w w' X)(h1:¬X rb)(h2:¬X svb)(h3:¬X nb):AY rb rc rt svb vc nb x w':=⟨h.1.kx hk h1 h2,hk.get h.2 h3⟩
structure R9(num:Int)(ns:List (ByteArray×Nd)):Prop where
 len:ns.length<=32
 num0:0<=num
 num1:num<9223372036854775807
 size:∀q∈ns,q.1.size<=1000/\Dj q.1=s7
 node:∀q∈ns,0<=q.2.made/\q.2.made<=num/\0<=q.2.changed/\q.2.changed<=num/\0<=q.2.version/\q.2.version<=2147483647
theorem IK(tb mb:Nat)(num:Int)(ns:List (ByteArray×Nd))(pa:ByteArray)(hp:Hq pa=s7)(hs:pa.size<=1000):∃(x:Nd) (en:Int),((en=0/\(pa,x)∈ns)∨en=10)/\∀L:qq,Ca L tb mb num ns->Yn Tabs gN L->8<=gN->Calls ly 147 #[om (lp ⟨tb,0,od⟩),pt pa] L fun e w'=>e=.returned (fh #[x.val,rl tz en])/\Below L.heap.size L w':=by
 by_cases h:∃x,(pa,x)∈ns
 ·obtain⟨x,hx⟩:=h
  exact⟨x,0,af ⟨rfl,hx⟩,fun L hL hG h8=>let⟨m,hm⟩:=hG.ml;Pm hL m hm (by have:=hG.size;omega) pa hs hp x hx⟩
 ·exact⟨Nd.zero,10,o5 rfl,fun L hL hG h8=>let⟨m,hm⟩:=hG.ml;T5 hL m hm (by have:=hG.size;omega) pa hs hp fun q hq e=>h ⟨q.2,by rw [←e];exact hq⟩⟩
theorem at_set(w:qq)(d:Nat)(a:Addr)(x:tj):(w.at d).setCell a x=(w.setCell a x).at d:=by
 unfold World.setCell World.at
 split <;> rfl
theorem Pr{w:qq}{nb:Nat}{x:Nd}(h:w.heap[nb]? = lp (ye Nd.zero.cs 96))(hj:∀k,¬J (.cell ⟨nb,k,od⟩))(o:Oper)(ho:o.op=.store 96 (.tmp 6) (.tmp 17))(a:Act)(h6:a.eval (.tmp 6)=om (lp ⟨nb,0,od⟩))(h17:a.eval (.tmp 17)=x.val) :
  (∀d,Go.Pair.Yields ly (execOp a.eval o) (w.at d) yj ((Jg w nb x).at d))/\∀d,∀e∈(execOp a.eval o).events ly (w.at d) #[],EvJ J (Jg w nb x).heap.size e:=by
 obtain⟨xp,xd,xn,xm,xc,xv⟩:=x
 have Di:(Jg w nb ⟨xp,xd,xn,xm,xc,xv⟩).heap.size=w.heap.size:=by simp [Jg,size_setCell]
 refine⟨fun d=>o5 ⟨?_,rfl⟩,fun d=>?_⟩
 all_goals
  obtain⟨a0,a1,a2,a3,a4,a5⟩:=WO (w:=(w.at d)) 0 1 2 3 4 5 h
  obtain⟨f0,f1,f2,f3,f4,f5⟩:=Fk6 (w:=(w.at d)) 0 1 2 3 4 5 h
  unfold execOp
  rw [ho]
  simp only [h6,h17]
 ·go_simp
  unfold Jg
  simp only [at_set]
 ·intro e he
  simp [go_sem,a0,a1,a2,a3,a4,a5,f0,f1,f2,f3,f4,f5,events_store _ _ _ _ (Value.string _) Mode.plain rfl,storedEv] at he
  have hl:nb<(Jg w nb ⟨xp,xd,xn,xm,xc,xv⟩).heap.size:=by rw [Di];exact ltOf h
  rcases he with rfl|rfl|rfl|rfl|rfl|rfl <;> exact⟨hj _,hl⟩
theorem Abk(U:Jk valid Tabs)(C:Cx Tabs gN J Bs u)(s:Int)(p t e:tj)(sb svb db tb mb wm sm:Nat)(last:Int)(down:Bool)(num:Int)(ns:List (ByteArray×Nd))(hb:u.heap[sb]? = lp (ye (Bl (rl tz s) p t (rl tz 1) e (cf od 0 0)) 75))(hg:gN<=sb)(j0:¬J (.cell ⟨sb,0,od⟩))(j3:¬J (.cell ⟨sb,3,od⟩))(j5:¬J (.cell ⟨sb,5,od⟩))(hv:u.heap[svb]? = lp (ye (B0 db tb wm sm last down) 84))(nv:¬Bs svb)(hsv:svb≠sb)(ht:Ca u tb mb num ns)(nt:¬Bs tb)(nm:¬Bs mb)(tk:R9 num ns)(ks:List tj)(hw:Lo u wm ks)(nw:¬Bs wm)(gw:gN<=wm)(nws:wm≠sb)(nwt:wm≠tb)(nwm:wm≠mb)(nwv:wm≠svb)(hs64:(Lit.int tz s).wf=s7)(m:Int)(hm1:-2147483648<=m)(hm2:m<=2147483647)(pa d nt':ByteArray)(ver:Int)(hp:Hq pa=s7)(hps:pa.size<=1000)(hks:ks = []∨ks = [Dw s pa 0]) :
  Bz ly s7 J Stop 101 #[om (lp ⟨svb,0,od⟩),om (lp ⟨sb,0,od⟩),Mv 5 m pa d nt' ver s7] u fun x u'=>x=fh #[]/\Ar u u' (fun i=>i=sb∨i=wm)/\(∃l:List UInt8,20<=l.length/\∃ov,u'.heap[sb]? = lp (ye (Bl (rl tz s) p t (rl tz 1) e ov) 75)/\u'.ownsRow u.heap.size 5 1 ov l.length (A0 l))/\VW J Bs u'/\Lo u' wm [Dw s pa 0]:=by
 have Cg:=ltOf hb
 obtain⟨x,en,hen,HF⟩:=IK (Tabs:=Tabs) (gN:=gN) tb mb num ns pa hp hps
 refine Br func101 Ac rfl (R:=fun _=>fh #[]) (fun _ _=>results_none Ac _ _ _) (fun _ _=>events_results_none Ac _ _) ?_
 simp only [ntmps101,na,Nat.reduceAdd,Nat.reduceSub]
 refine Fck ?_
 refine E9 (Bb 5 m pa d nt' ver s7) 119 ?_;walk_nrm
 refine Am ?_
 have H0:=B8 u (Bb 5 m pa d nt' ver s7) 119 (fun _=>False)
 have W1:=C.W.alloc (Bb 5 m pa d nt' ver s7) 119
 have F7:(u.alloc (ye (Bb 5 m pa d nt' ver s7) 119)).heap[u.heap.size]? = lp (ye (Bb 5 m pa d nt' ver s7) 119):=tw _ _
 generalize u.alloc (ye (Bb 5 m pa d nt' ver s7) 119)=u1 at H0 W1 F7 ⊢
 have hv1:=H0.get hv id
 have ht1:=ht.kx H0 id id
 have B9:=H0.get hb id
 have nr:¬Bs u.heap.size:=fun h=>by have:=C.W.lt h;omega
 refine Aw ?_
 have hI:=F2.at (rb:=u.heap.size) (rc:=Bb 5 m pa d nt' ver s7) (rt:=119) (svb:=svb) (vc:=B0 db tb wm sm last down)
 refine AX (Q:=fun e a' w'=>e=.normal/\∃nb,a'=⟨#[om (lp ⟨svb,0,od⟩),om (lp ⟨sb,0,od⟩),Mv 5 m pa d nt' ver s7,yj,yj,om (lp ⟨u.heap.size,0,od⟩),om (lp ⟨nb,0,od⟩),rl tz en,yj,fh #[x.val,rl tz en],om (lp ⟨svb,0,od⟩),om (lp ⟨svb,0,od⟩),om (lp ((⟨svb,0,od⟩:Addr).add 1)),om (lp ⟨tb,0,od⟩),om (lp ((⟨u.heap.size,0,od⟩:Addr).add 2)),pt pa,fh #[x.val,rl tz en],x.val,rl tz en,yj,yj,yj,yj,yj,yj,yj,yj,yj,yj,yj,yj,yj,yj,yj,yj,yj,yj,yj,yj,yj,yj,yj,yj,yj,yj,yj,yj,yj,yj,yj,yj,yj,yj,yj,yj,yj,yj,yj,yj,yj,yj,yj,yj,yj,yj,yj,yj,yj,yj,yj,yj,yj,yj,yj,yj,yj,yj,yj,yj,yj,yj,yj,yj,yj,yj,yj,yj,yj],[]⟩/\u1.heap.size<=nb/\w'.heap[nb]? = lp (ye x.cs 96)/\Ar u1 w' (fun _=>False)/\VW J Bs w') ?_ ?_
 ·refine Ei (I:=F2 u.heap.size (Bb 5 m pa d nt' ver s7) 119 svb (B0 db tb wm sm last down)) Ac fun d0=>?_
  have hQ:∀(a:Act) (w:qq) (d':Nat),(kr=kr/\∃nb,a=⟨#[om (lp ⟨svb,0,od⟩),om (lp ⟨sb,0,od⟩),Mv 5 m pa d nt' ver s7,yj,yj,om (lp ⟨u.heap.size,0,od⟩),om (lp ⟨nb,0,od⟩),rl tz en,yj,fh #[x.val,rl tz en],om (lp ⟨svb,0,od⟩),om (lp ⟨svb,0,od⟩),om (lp ((⟨svb,0,od⟩:Addr).add 1)),om (lp ⟨tb,0,od⟩),om (lp ((⟨u.heap.size,0,od⟩:Addr).add 2)),pt pa,fh #[x.val,rl tz en],x.val,rl tz en,yj,yj,yj,yj,yj,yj,yj,yj,yj,yj,yj,yj,yj,yj,yj,yj,yj,yj,yj,yj,yj,yj,yj,yj,yj,yj,yj,yj,yj,yj,yj,yj,yj,yj,yj,yj,yj,yj,yj,yj,yj,yj,yj,yj,yj,yj,yj,yj,yj,yj,yj,yj,yj,yj,yj,yj,yj,yj,yj,yj,yj,yj,yj,yj,yj,yj,yj,yj,yj],[]⟩/\u1.heap.size<=nb/\w.heap[nb]? = lp (ye x.cs 96)/\Ar u1 w (fun _=>False)/\VW J Bs w)->(kr=kr/\∃nb,a=⟨#[om (lp ⟨svb,0,od⟩),om (lp ⟨sb,0,od⟩),Mv 5 m pa d nt' ver s7,yj,yj,om (lp ⟨u.heap.size,0,od⟩),om (lp ⟨nb,0,od⟩),rl tz en,yj,fh #[x.val,rl tz en],om (lp ⟨svb,0,od⟩),om (lp ⟨svb,0,od⟩),om (lp ((⟨svb,0,od⟩:Addr).add 1)),om (lp ⟨tb,0,od⟩),om (lp ((⟨u.heap.size,0,od⟩:Addr).add 2)),pt pa,fh #[x.val,rl tz en],x.val,rl tz en,yj,yj,yj,yj,yj,yj,yj,yj,yj,yj,yj,yj,yj,yj,yj,yj,yj,yj,yj,yj,yj,yj,yj,yj,yj,yj,yj,yj,yj,yj,yj,yj,yj,yj,yj,yj,yj,yj,yj,yj,yj,yj,yj,yj,yj,yj,yj,yj,yj,yj,yj,yj,yj,yj,yj,yj,yj,yj,yj,yj,yj,yj,yj,yj,yj,yj,yj,yj,yj],[]⟩/\u1.heap.size<=nb/\(w.at d').heap[nb]? = lp (ye x.cs 96)/\Ar u1 (w.at d') (fun _=>False)/\VW J Bs (w.at d')):=fun a w d' ⟨h1,nb,h2,h3,h4,h5,h6⟩=>⟨h1,nb,h2,h3,h4,h5.at d',h6.at d'⟩
  have hS:F2 u.heap.size (Bb 5 m pa d nt' ver s7) 119 svb (B0 db tb wm sm last down) (u1.at d0):=⟨F7,hv1⟩
  refine Nds ?_
  refine A6.tp 4 hI hQ hS ?_;walk_nrm
  refine A6.tl 3 hI hQ hS (fun w (hw:F2 _ _ _ _ _ w)=>(cellOf (j:=1) hw.2 rfl:w.cell? ⟨svb,1,od⟩=lp (om (lp ⟨tb,0,od⟩)))) (fun h=>nv (C.W.ji.cell _ h)) (fun w (hw:F2 _ _ _ _ _ w)=>ltOf hw.2) ?_;walk_nrm
  refine A6.tl 5 hI hQ hS (fun w (hw:F2 _ _ _ _ _ w)=>(cellOf (j:=2) hw.1 rfl:w.cell? ⟨u.heap.size,2,od⟩=lp (pt pa))) (fun h=>nr (C.W.ji.cell _ h)) (fun w (hw:F2 _ _ _ _ _ w)=>ltOf hw.1) ?_;walk_nrm
  have HC:∀w,Ar u1 w (fun _=>False)->VW J Bs w->Bz ly s7 J Stop 147 #[om (lp ⟨tb,0,od⟩),pt pa] w fun y w'=>Ar w w' (fun _=>False)/\VW J Bs w'/\y=fh #[x.val,rl tz en]:=fun w hk hW=>by
   refine Dm (Fc (f:=147) Ad hW (X:=fun _=>False) (R:=fun y _=>y=fh #[x.val,rl tz en]) fun L hs=>?_) fun y w' h=>⟨h.1,h.2.1,let⟨_,_,h⟩:=h.2.2;h⟩
   have Gv:=(C.kx (H0.trans hk) hW fun _ h=>h.elim).glob hs
   exact(HF L ((ht1.kx hk id id).sim hW.nf hs nt nm) Gv C.g8).mono fun e w' h=>⟨⟨_,h.1,rfl⟩,Bp h.2⟩
  refine Te (i:=6) (j:=10) Aa ?_ ?_
  ·refine Z1 (HC (u1.at d0) ((Ar.refl _ _).at d0) (W1.at d0)) rfl Ac rfl (by walk_nrm) ?_
   rintro y u2 ⟨H2,W2,rfl⟩
   have hk2':Ar u1 u2 (fun _=>False):=((Ar.refl u1 _).at d0).trans H2
   refine⟨F2.kx hS H2 id id,?_⟩
   refine Gwc ?_;intro hS2 hk3 W3 hn3
   refine Pp (S:=env Lv) (fn:=0) hI hQ rfl Ac (Dp Aa) (Bg _ _) (x:=om (lp ⟨Array.size (World.heap u2),0,od⟩)) (v':=World.alloc u2 (ye Nd.zero.cs 96)) (fun dz=>af (by walk_nrm;go_simp;first|done|rfl|exact⟨rfl,rfl⟩)) (fun dz=>by walk_nrm;intro ez hez;simp [go_sem] at hez) (F2.kx hS2 hk3 id id) ?_;walk_nrm
   generalize u2.alloc (ye Nd.zero.cs 96)=u3 at hk3 W3 hn3 ⊢
   have nn:¬Bs u2.heap.size:=fun h=>by have:=W2.lt h;omega
   have Ft:=hk2'.trans hk3
   have hS3:=F2.kx hS2 hk3 id id
   have SN:=Pr (J:=J) (x:=x) hn3 (fun k h=>nn (C.W.ji.cell _ h))
   refine Jzm ?_;intro T4 Ia hne1 hne2 hS4
   refine Jl (i:=11) (S:=env Lv) (fn:=0) (x:=yj) (v':=Jg u3 u2.heap.size x) hI hQ Aa rfl Ac (Dp Aa) (Bg _ _) (SN _ rfl _ Ac Ac).1 (SN _ rfl _ Ac Ac).2 hS4 ?_
   exact Gkz
  ·refine Ngc ?_;intro H2 W2 hn2 hS2
   refine Pp (S:=env Lv) (fn:=0) hI hQ rfl Ac (Dp Aa) (Bg _ _) (x:=om (lp ⟨Array.size (World.heap (u1.at d0)),0,od⟩)) (v':=World.alloc (u1.at d0) (ye Nd.zero.cs 96)) (fun dz=>af (by walk_nrm;go_simp;first|done|rfl|exact⟨rfl,rfl⟩)) (fun dz=>by walk_nrm;intro ez hez;simp [go_sem] at hez) hS2 ?_;walk_nrm
   refine V8a ?_;intro nn hk2'
   generalize (u1.at d0).alloc (ye Nd.zero.cs 96)=u2 at H2 W2 hn2 hS2 hk2' ⊢
   refine Cb (i:=6) (HC u2 hk2' W2) Aa rfl Ac rfl (by walk_nrm) ?_
   rintro y u3 ⟨hk3,W3,rfl⟩
   refine⟨F2.kx hS2 hk3 id id,?_⟩
   walk_nrm
   have hS3:=F2.kx hS2 hk3 id id
   refine Vmv ?_
   have Ft:=hk2'.trans hk3
   have hn3:=hk3.get hn2 id
   have hle:u1.heap.size<=(u1.at d0).heap.size:=aA _
   have SN:=Pr (J:=J) (x:=x) hn3 (fun k h=>nn (C.W.ji.cell _ h))
   refine Ft6 ?_;intro T4 Ia hne1 hne2 hS4
   refine Jl (i:=11) (S:=env Lv) (fn:=0) (x:=yj) (v':=Jg u3 (u1.at d0).heap.size x) hI hQ Aa rfl Ac (Dp Aa) (Bg _ _) (SN _ rfl _ Ac Ac).1 (SN _ rfl _ Ac Ac).2 hS4 ?_
   exact Lk6
 ·rintro e' a' u2 ⟨rfl,nb,rfl,hle,hn2,H2,W2⟩
  simp only [Az]
  have hk12:=H0.trans H2
  have C2:=C.kx hk12 W2 fun _ h=>h.elim
  have hr2:=H2.get F7 id
  refine M8j ?_
  refine A5 ?_
  refine Ak ?_
  refine Bq (cellOf (j:=6) hr2 rfl) (fun h=>nr (C.W.ji.cell _ h)) (ltOf hr2) ?_;walk_nrm
  refine Lh6 ?_
  refine Bq (cellOf (j:=0) hr2 rfl) (fun h=>nr (C.W.ji.cell _ h)) (ltOf hr2) ?_;walk_nrm
  refine Ak ?_
  refine By (Fc (f:=148) (args:=#[rl tz 5,rl tz en]) Ad W2 (X:=fun _=>False) (R:=fun y _=>y=.bool s7) fun L hs=>(Xn L en (hen.imp (·.1) id)).mono fun e w' h=>⟨⟨_,h.1,rfl⟩,by rw [h.2];exact Ar.refl _ _⟩) rfl Ac rfl (by walk_nrm) ?_
  rintro y u3 ⟨hk3,W3,L3,hs3,rfl⟩
  walk_nrm
  refine Ak ?_
  refine K75 ?_
  have Ft:=hk12.trans hk3
  have hk13':=H2.trans hk3
  have C3:=C.kx Ft W3 fun _ h=>h.elim
  have hr3:=hk13'.get F7 id
  have hb3:=Ft.get hb id
  have hv3:=Ft.get hv id
  have hn3:=hk3.get hn2 id
  have ht3:=ht.kx Ft id id
  have hw3:Lo u3 wm ks:=hw.keep (Ft.block _ (Bm.lt hw) id)
  have Cu:¬u.heap.size=wm:=fun h=>by have:=Bm.lt hw;omega
  have hnb:¬Bs nb:=fun h=>by have h1:=C.W.lt h;have h2:=H0.size;omega
  have hnbw:¬nb=wm:=fun h=>by have h1:=Bm.lt hw;have h2:=H0.size;omega
  have hnbs:¬nb=sb:=fun h=>by have h2:=H0.size;omega
  have hI4:=Yj.at (rb:=u.heap.size) (rc:=Bb 5 m pa d nt' ver s7) (rt:=119) (svb:=svb) (vc:=B0 db tb wm sm last down) (sb:=sb) (ss:=Bl (rl tz s) p t (rl tz 1) e (cf od 0 0))
  refine Ei (I:=Yj u.heap.size (Bb 5 m pa d nt' ver s7) 119 svb (B0 db tb wm sm last down) sb (Bl (rl tz s) p t (rl tz 1) e (cf od 0 0))) Ac fun d0=>?_
  have hS:Yj u.heap.size (Bb 5 m pa d nt' ver s7) 119 svb (B0 db tb wm sm last down) sb (Bl (rl tz s) p t (rl tz 1) e (cf od 0 0)) (u3.at d0):=⟨⟨hr3,hv3⟩,hb3⟩
  refine A6.tp 0 hI4 (fun _ _ d h=>A8 h d) hS ?_;walk_nrm
  refine A6.tp 1 hI4 (fun _ _ d h=>A8 h d) hS ?_;walk_nrm
  refine A6.tp 2 hI4 (fun _ _ d h=>A8 h d) hS ?_;walk_nrm
  refine A6.tp 4 hI4 (fun _ _ d h=>A8 h d) hS ?_;walk_nrm
  refine A6.tp 5 hI4 (fun _ _ d h=>A8 h d) hS ?_;walk_nrm
  refine A6.tp 6 hI4 (fun _ _ d h=>A8 h d) hS ?_;walk_nrm
  refine A6.tp 8 hI4 (fun _ _ d h=>A8 h d) hS ?_;walk_nrm
  refine A6.tp 10 hI4 (fun _ _ d h=>A8 h d) hS ?_;walk_nrm
  refine A6.tl 3 hI4 (fun _ _ d h=>A8 h d) hS (fun w (hw:Yj _ _ _ _ _ _ _ w)=>(cellOf (j:=2) hw.1.2 rfl:w.cell? ⟨svb,2,od⟩=lp (.map (lp wm)))) (fun h=>nv (C.W.ji.cell _ h)) (fun w (hw:Yj _ _ _ _ _ _ _ w)=>ltOf hw.1.2) ?_;walk_nrm
  refine A6.tl 7 hI4 (fun _ _ d h=>A8 h d) hS (fun w (hw:Yj _ _ _ _ _ _ _ w)=>(cellOf (j:=0) hw.2 rfl:w.cell? ⟨sb,0,od⟩=lp (rl tz s))) j0 (fun w (hw:Yj _ _ _ _ _ _ _ w)=>ltOf hw.2) ?_;walk_nrm
  refine A6.tl 9 hI4 (fun _ _ d h=>A8 h d) hS (fun w (hw:Yj _ _ _ _ _ _ _ w)=>(cellOf (j:=2) hw.1.1 rfl:w.cell? ⟨u.heap.size,2,od⟩=lp (pt pa))) (fun h=>nr (C.W.ji.cell _ h)) (fun w (hw:Yj _ _ _ _ _ _ _ w)=>ltOf hw.1.1) ?_;walk_nrm
  refine A6.tl 11 hI4 (fun _ _ d h=>A8 h d) hS (fun w (hw:Yj _ _ _ _ _ _ _ w)=>(cellOf (j:=0) hw.1.1 rfl:w.cell? ⟨u.heap.size,0,od⟩=lp (rl tz 5))) (fun h=>nr (C.W.ji.cell _ h)) (fun w (hw:Yj _ _ _ _ _ _ _ w)=>ltOf hw.1.1) ?_;walk_nrm
  refine Cb (i:=12) (Fc (f:=150) (args:=#[rl tz 5]) Ad (W3.at d0) (X:=fun _=>False) (R:=fun y _=>y=rl tz 0) fun L hs=>(AV L).mono fun e w' h=>⟨⟨_,h.1,rfl⟩,by rw [h.2];exact Ar.refl _ _⟩) Aa rfl Ac rfl (by walk_nrm) ?_
  rintro y u4 ⟨Ia,W4,L4,hs4,rfl⟩
  have hS4:=hS.kx Ia id id id
  refine⟨hS4,?_⟩
  walk_nrm
  refine A6.tp 13 hI4 (fun _ _ d h=>A8 h d) hS4 ?_;walk_nrm
  have hk34:Ar u3 u4 (fun _=>False):=((Ar.refl u3 _).at d0).trans Ia
  have hw4:Lo u4 wm ks:=hw3.keep (hk34.block _ (Bm.lt hw3) id)
  refine Cb (i:=14) (Fc (f:=149) (args:=#[.map (lp wm),Dw s pa 0]) Ad W4 (X:=(· = wm)) (R:=fun y w'=>y=fh #[]/\Lo w' wm [Dw s pa 0]) fun L hs=>(Acx (hw4.sim W4.nf hs nw) hs64 Ad hps hks).mono fun e w' h=>⟨⟨_,h.1,rfl,h.2.1⟩,h.2.2⟩) Aa rfl Ac rfl (by walk_nrm) ?_
  rintro y u5 ⟨hk5,W5,L5,hs5,rfl,hw5'⟩
  have hw5:Lo u5 wm [Dw s pa 0]:=hw5'.keep (hs5.same W5.nf nw).symm
  have hS5:=hS4.kx hk5 Cu (fun h=>nwv h.symm) (fun h=>nws h.symm)
  refine⟨hS5,?_⟩
  walk_nrm
  refine Ybw ?_
  have hk35:Ar u3 u5 (· = wm):=(hk34.mono fun _ h=>h.elim).trans hk5
  have hk05:Ar u u5 (· = wm):=(Ft.mono fun _ h=>h.elim).trans hk35
  have C5:=C.kx hk05 W5 fun i h=>by rw [h];exact gw
  have ht5:=ht.kx hk05 (fun h=>nwt h.symm) (fun h=>nwm h.symm)
  have hn5:=hk35.get hn3 hnbw
  obtain⟨⟨hr5,hv5⟩,hb5⟩:=hS5
  have jr:∀k,¬J (.cell ⟨u.heap.size,k,od⟩):=fun k h=>nr (C.W.ji.cell _ h)
  have jn:∀k,¬J (.cell ⟨nb,k,od⟩):=fun k h=>hnb (C.W.ji.cell _ h)
  have hz1:-9223372036854775808<=num:=by have:=tk.num0;omega
  have hz2:num<=9223372036854775807:=by have:=tk.num1;omega
  refine M8j ?_
  refine D9q ?_
  rcases hen with⟨rfl,hx⟩|rfl
  ·refine Guh ?_
   refine Aw ?_
   refine Ei (I:=F2 u.heap.size (Bb 5 m pa d nt' ver s7) 119 svb (B0 db tb wm sm last down)) Ac fun d1=>?_
   have hS6:F2 u.heap.size (Bb 5 m pa d nt' ver s7) 119 svb (B0 db tb wm sm last down) (u5.at d1):=⟨hr5,hv5⟩
   refine A6.tp 0 hI (fun _ _ d h=>A8 h d) hS6 ?_;walk_nrm
   refine A6.tp 1 hI (fun _ _ d h=>A8 h d) hS6 ?_;walk_nrm
   refine A6.tp 2 hI (fun _ _ d h=>A8 h d) hS6 ?_;walk_nrm
   refine A6.tp 4 hI (fun _ _ d h=>A8 h d) hS6 ?_;walk_nrm
   refine A6.tl 3 hI (fun _ _ d h=>A8 h d) hS6 (fun w (hw:F2 _ _ _ _ _ w)=>(cellOf (j:=1) hw.2 rfl:w.cell? ⟨svb,1,od⟩=lp (om (lp ⟨tb,0,od⟩)))) (fun h=>nv (C.W.ji.cell _ h)) (fun w (hw:F2 _ _ _ _ _ w)=>ltOf hw.2) ?_;walk_nrm
   refine A6.tl 5 hI (fun _ _ d h=>A8 h d) hS6 (fun w (hw:F2 _ _ _ _ _ w)=>(cellOf (j:=2) hw.1 rfl:w.cell? ⟨u.heap.size,2,od⟩=lp (pt pa))) (fun h=>nr (C.W.ji.cell _ h)) (fun w (hw:F2 _ _ _ _ _ w)=>ltOf hw.1) ?_;walk_nrm
   refine Cb (i:=6) (Fc (f:=151) (args:=#[om (lp ⟨tb,0,od⟩),pt pa]) Ad (W5.at d1) (X:=fun _=>False) (R:=fun y _=>∃a k c,y=cf a k c/\k<=ns.length) fun L hs=>(Mh L tb mb num ns ((ht5.at d1).sim (W5.at d1).nf hs nt nm) pa (by have:=tk.len;omega) tk.size).mono fun e w' h=>⟨let⟨a,k,c,h1,h2⟩:=h.1;⟨_,h1,a,k,c,rfl,h2⟩,Bp h.2⟩) Aa rfl Ac rfl (by walk_nrm) ?_
   rintro y u6 ⟨hk6,W6,L6,hs6,ca,ck,cc,rfl,hck⟩
   have hS7:=hS6.kx hk6 id id
   refine⟨hS7,?_⟩
   walk_nrm
   refine A6.tp 7 hI (fun _ _ d h=>A8 h d) hS7 ?_;walk_nrm
   refine Ybw ?_
   have hk56:Ar u5 u6 (fun _=>False):=((Ar.refl u5 _).at d1).trans hk6
   have hk06:Ar u u6 (· = wm):=hk05.trans (hk56.mono fun _ h=>h.elim)
   obtain⟨hr6,hv6⟩:=hS7
   have hn6:=hk56.get hn5 id
   have hb6:=hk56.get hb5 id
   have ht6:=ht5.kx hk56 id id
   have hw6:Lo u6 wm [Dw s pa 0]:=hw5.keep (hk56.block _ (Bm.lt hw5) id)
   refine Fck ?_
   refine Ak ?_
   refine Bq (cellOf (j:=0) hr6 rfl) (jr 0) (ltOf hr6) ?_;walk_nrm
   refine Am ?_
   refine Dt ?_
   refine Fck ?_
   refine Lh6 ?_
   refine Am ?_
   refine Fr7 ?_
   refine Fck ?_
   refine Lh6 ?_
   refine K75 ?_
   have hI5:=AY.at (rb:=u.heap.size) (rc:=Bb 5 m pa d nt' ver s7) (rt:=119) (svb:=svb) (vc:=B0 db tb wm sm last down) (nb:=nb) (x:=x)
   refine Ei (I:=AY u.heap.size (Bb 5 m pa d nt' ver s7) 119 svb (B0 db tb wm sm last down) nb x) Ac fun d2=>?_
   have hS8:AY u.heap.size (Bb 5 m pa d nt' ver s7) 119 svb (B0 db tb wm sm last down) nb x (u6.at d2):=⟨⟨hr6,hv6⟩,hn6⟩
   have hQ:∀(a:Act) (w:qq) (d':Nat),((kr=kr∨kr=Exit.ret)/\a.defers = []/\True/\Ar u w (fun i=>i=sb∨i=wm)/\(∃l:List UInt8,20<=l.length/\∃ov,w.heap[sb]? = lp (ye (Bl (rl tz s) p t (rl tz 1) e ov) 75)/\w.ownsRow u.heap.size 5 1 ov l.length (A0 l))/\VW J Bs w/\Lo w wm [Dw s pa 0])->((kr=kr∨kr=Exit.ret)/\a.defers = []/\True/\Ar u (w.at d') (fun i=>i=sb∨i=wm)/\(∃l:List UInt8,20<=l.length/\∃ov,(w.at d').heap[sb]? = lp (ye (Bl (rl tz s) p t (rl tz 1) e ov) 75)/\(w.at d').ownsRow u.heap.size 5 1 ov l.length (A0 l))/\VW J Bs (w.at d')/\Lo (w.at d') wm [Dw s pa 0]):=fun a w d' ⟨h1,h2,h3,h4,h5,h6,h7⟩=>⟨h1,h2,h3,h4.at d',h5,h6.at d',h7.keep rfl⟩
   refine A6.tp 0 hI5 hQ hS8 ?_;walk_nrm
   refine A6.tp 1 hI5 hQ hS8 ?_;walk_nrm
   refine A6.tp 4 hI5 hQ hS8 ?_;walk_nrm
   refine A6.tp 5 hI5 hQ hS8 ?_;walk_nrm
   refine A6.take (i:=2) (x:=(Mv 5 m pa d nt' ver s7)) hI5 hQ rfl Aa Aa Aa (Ge (S:=env Lv) Ac (Dp (fn:=0) Aa) (Bg _ _) ?_) hS8 ?_
   ·exact fun w hw=>Fx hw.1.1 jr _ _ rfl _ Ac
   walk_nrm
   refine A6.take (i:=3) (x:=(x.val)) hI5 hQ rfl Aa Aa Aa (Ge (S:=env Lv) Ac (Dp (fn:=0) Aa) (Bg _ _) ?_) hS8 ?_
   ·exact fun w hw=>FP hw.2 jn _ _ rfl _ Ac
   walk_nrm
   refine Cb (i:=6) (Fc (f:=153) (args:=#[x.val,rl tz ck]) Ad (W6.at d2) (X:=fun _=>False) (R:=fun y w'=>Er w' (fun b=>b<w'.heap.size) [.mk 0 ⟨#[]⟩ [Orch.num x.made,Orch.num x.changed,Orch.num x.version,Orch.num ck]] y) fun L hs=>(Wm L x.path x.data x.note x.made x.changed x.version ck).mono fun e w' h=>⟨h.1,Bp h.2⟩) Aa rfl Ac rfl (by walk_nrm) ?_
   rintro lv u7 ⟨hk7,W7,L7,hs7,hlv⟩
   have hS9:=hS8.kx hk7 id id id
   refine⟨hS9,?_⟩
   walk_nrm
   have hk67:Ar u6 u7 (fun _=>False):=((Ar.refl u6 _).at d2).trans hk7
   have hk07:Ar u u7 (· = wm):=hk06.trans (hk67.mono fun _ h=>h.elim)
   have C7:=C.kx hk07 W7 fun i h=>by rw [h];exact gw
   obtain⟨n1,n2,n3,n4,n5,n6⟩:=tk.node _ hx
   have hlen:=tk.len
   have Ih:=Orch.puts_state valid (m:=m) (z:=num) (e:=0) (a:=x.made) (b:=x.changed) (c:=x.version) (d:=ck) hm1 hm2 hz1 hz2 Ad Ad (by simp only at n1;omega) (by simp only at n2;omega) (by simp only at n3;omega) (by simp only at n4;omega) (by simp only at n5;omega) (by simp only at n6;omega) Ab Ab
   refine Cb (i:=7) (Sl U C7 (rl tz s) p t e sb svb db tb mb wm sm last down num ns (hk67.get hb6 id) hg j3 j5 hS9.1.2 nv hsv (ht6.kx hk67 id id) nt nm 5 Ad m pa d nt' ver s7 _ (fun L hL=>hL.an5) [.mk 0 ⟨#[]⟩ [Orch.num x.made,Orch.num x.changed,Orch.num x.version,Orch.num ck]] lv Ae Ae (Yb W7 hs7 hlv) _ Orch.parse_state _ Ih (by simp [Orch.be_length]) (by simp [Orch.be_length])) Aa rfl Ac rfl (by walk_nrm;rfl) ?_
   rintro y u8 ⟨rfl,⟨l,hl,T8⟩,W8⟩
   refine⟨hS9.kx T8.kept Ab hsv hnbs,?_⟩
   walk_nrm
   have hw7:Lo u7 wm [Dw s pa 0]:=hw6.keep (hk67.block _ (Bm.lt hw6) id)
   obtain⟨ov,h1,h2⟩:=T8.out
   refine A6.all Aa ⟨af rfl,rfl,trivial,(hk07.mono fun _ h=>o5 h).trans (T8.kept.mono fun _ h=>af h),⟨l,hl,ov,h1,Df h2 hk07.size⟩,W8,hw7.keep (T8.kept.block _ (Bm.lt hw7) nws)⟩ _
  ·refine Cc4 ?_
   refine Fck ?_
   refine Lh6 ?_
   refine Ef (S:=env Lv) (fn:=101) rfl Ac (Dp Aa) (Bg _ _) (x:=Mv 5 m pa d nt' ver s7) (v':=u5) (fun d'=>(Fx (J:=J) (w:=u5.at d') hr5 jr _ _ rfl _ Ac).1) (fun d'=>(Fx (J:=J) (w:=u5.at d') hr5 jr _ _ rfl _ Ac).2) ?_
   walk_nrm
   refine Ak ?_
   refine By (FZ U C5 (rl tz s) p t (rl tz 1) e sb svb db tb mb wm sm last down num ns hb5 hg j5 hv5 nv hsv ht5 nt nm 5 m pa d nt' ver s7 10 hm1 hm2 hz1 hz2 Ad Ad) rfl Ac rfl (by walk_nrm) ?_
   rintro y u6 ⟨rfl,⟨l,hl,T6⟩,W6⟩
   walk_nrm
   refine Am ?_
   obtain⟨ov,h1,h2⟩:=T6.out
   refine Ez ⟨o5 rfl,rfl,trivial,?_,⟨l,hl,ov,h1,Df h2 hk05.size⟩,W6,hw5.keep (T6.kept.block _ (Bm.lt hw5) nws)⟩
   exact(hk05.mono fun _ h=>o5 h).trans (T6.kept.mono fun _ h=>af h)
end
section
variable {J:Loc->Prop} {Bs:Nat->Prop} {Stop:Goroutine->qq->Prop} {u:qq}
theorem Abi(W:VW J Bs u)(sm:Nat):Bz ly s7 J Stop 176 #[.map (lp sm)] u fun x u'=>x=.func (.func 195) #[] #[om (lp ⟨u.heap.size,0,od⟩)]/\Ar u u' (fun _=>False)/\VW J Bs u'/\u'.heap[u.heap.size]? = lp (ye #[.map (lp sm)] 82):=by
 refine Br func176 Ac rfl (R:=fun tmps=>tmps.getD 2 yj) (fun _ _=>yi Ac _ _ _) (fun _ _=>qz Ac _ _) ?_
 simp only [ntmps176,na,Nat.reduceAdd,Nat.reduceSub]
 refine Fck ?_
 refine E9 #[.map (lp sm)] 82 ?_;walk_nrm
 refine Pdv ?_
 refine Fck ?_
 refine Lh6 ?_
 refine Am ?_
 refine Ez ⟨o5 rfl,rfl,?_,B8 u _ 82 _,W.alloc _ 82,tw _ _⟩
 walk_nrm
theorem ZC{zs:List Int}(h:zs.Perm [1,2]):(zs.mergeSort fun x y=>decide (x<=y)) = [1,2]:=by
 have hs:(zs.mergeSort fun x y=>decide (x<=y)).Perm [1,2]:=(List.mergeSort_perm _ _).trans h
 have hp:=List.pairwise_mergeSort (le:=fun(x y:Int)=>decide (x<=y)) (by intro a b c h1 h2;simp at *;omega) (by intro a b;simp;omega) zs
 generalize (zs.mergeSort fun x y=>decide (x<=y))=l at hs hp
 have hl:=hs.length_eq
 match l,hl with
 | [a,b],_=>
  have ha:a∈[1,2]:=hs.mem_iff.1 Ae
  have hb:b∈[1,2]:=hs.mem_iff.1 Ae
  have h1:(1:Int)∈[a,b]:=hs.mem_iff.2 Ae
  have h2:(2:Int)∈[a,b]:=hs.mem_iff.2 Ae
  simp at ha hb h1 h2 hp
  have:a=1/\b=2:=Ab
  rw [this.1,this.2]
theorem UO(W:VW J Bs u)(sm mbx b1 b2:Nat)(hm:Bm ly 3 u sm (Fp [(1,b1),(2,b2)]))(nm:¬Bs sm)(hx:u.heap[mbx]? = lp (ye #[.map (lp sm)] 82))(nx:¬Bs mbx) :
  Bz ly s7 J Stop 175 #[.func (.func 195) #[] #[om (lp ⟨mbx,0,od⟩)]] u fun x u'=>Ar u u' (fun _=>False)/\VW J Bs u'/\∃g cap,x=cf (lp ⟨g,0,od⟩) 2 cap/\u.heap.size<=g/\u'.cell? ⟨g,0,od⟩=lp (rl tz 1)/\u'.cell? ⟨g,1,od⟩=lp (rl tz 2):=by
 refine Br func175 Ac rfl (R:=fun tmps=>tmps.getD 2 yj) (fun _ _=>yi Ac _ _ _) (fun _ _=>qz Ac _ _) ?_
 simp only [ntmps175,na,Nat.reduceAdd,Nat.reduceSub]
 refine Fck ?_
 refine Pdv ?_
 refine Fck ?_
 refine Ak ?_
 refine By (MQ W sm mbx [(1,b1),(2,b2)] hm nm hx nx Ae) rfl Ac rfl (by walk_nrm) ?_
 rintro x u1 ⟨K1,W1,zs,hzp,ho⟩
 walk_nrm
 refine Pdv ?_
 have hl2:zs.length=2:=by have:=hzp.length_eq;simpa using this
 obtain⟨hlen,⟨rfl,hn⟩|⟨g,cap,cur,rfl,hg,hb,hc,hmx,hs,ht⟩⟩:=ho
 ·omega
 refine Fck ?_
 refine Ak ?_
 have ng:¬Bs g:=fun h=>by have:=W.lt h;omega
 refine By (Fc (f:=194) (args:=#[cf (lp ⟨g,0,od⟩) zs.length cap]) Ad W1 (X:=(· = g)) (R:=fun y w'=>y=fh #[]/\∀j (h:j<zs.length),w'.cell? ⟨g,j,od⟩=lp (rl tz ((zs.mergeSort fun x y=>decide (x<=y))[j]'(by rw [eQ];exact h)))) fun L hsL=>?_) rfl Ac rfl (by walk_nrm) ?_
 ·have hL:L.heap[g]? = lp (ye cur 3):=(hsL.same W1.nf ng).trans hb
  refine(JX L g cap zs cur 3 hL (fun j hj=>?_) Ab).mono fun e w' h=>⟨⟨_,h.1,rfl,h.2.2⟩,Ar.of_grown h.2.1 (af rfl)⟩
  have e1:(cur.toList.take (zs.length * 1))[j]? = lp (rl tz zs[j]):=by
   rw [ht]
   simp [ints,aR hj]
  rw [cK Ab,dC] at e1
  exact e1
 rintro y u2 ⟨K2,W2,L2,hs2,rfl,hcells⟩
 walk_nrm
 refine Am ?_
 refine Fck ?_
 refine Lh6 ?_
 refine Am ?_
 have hsrt:=ZC (by simpa using hzp)
 have hc0:=hcells 0 Ab
 have hc1:=hcells 1 Ab
 simp only [hsrt] at hc0 hc1
 refine Ez ⟨o5 rfl,rfl,⟨K2.os.trans K1.os,K2.tape.trans K1.tape,K2.output.trans K1.output,aE K1.size K2.size,fun k hk _=>(K2.block k (aB hk K1.size) Ab).trans (K1.block k hk id)⟩,W2,g,cap,?_,hg,(Ew (hs2.same W2.nf ng)).symm.trans hc0,(Ew (hs2.same W2.nf ng)).symm.trans hc1⟩
 walk_nrm
 rw [hl2]
end
end Go.Proofs.YtjoblhlkfmeckaaGreatDoor
