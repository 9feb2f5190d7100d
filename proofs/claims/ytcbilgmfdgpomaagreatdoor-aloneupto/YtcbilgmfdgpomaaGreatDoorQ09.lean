import Derived.Test.YtcbilgmfdgpomaaGreatDoorQ04
import Derived.Test.YtcbilgmfdgpomaaGreatDoorQ07
import Derived.Deep.WholeRow
set_option maxHeartbeats 2000000
set_option maxRecDepth 8000
set_option linter.all false
open Option renaming some → lj,none → jh
open Go.Proofs.Tryz renaming prog → y7,underlying37 → pfr,f64 → fqp,runUnderlying118 → qt0,prog → N
open Go renaming Value → uo,World → gk,Goroutine → vr,undef → qp,Code → sf,events_store → gog,Frame → qq,FuncId → x8,yielded → iu,Oper → ox,TypeId → q9,results_none → ksi,storedEv → jd,madeCells → oro,goexitEntry → pq,heap_alloc_new → iw,World → Z
open Bool renaming true → km,false → sd
open Go.Exit renaming normal → uz7
open Go.World renaming frozen? → tv,cell? → ur,frozen?_setCell → xju,cell?_setCell_other → yon,cell?_setCell_same → duy
open Go.Region renaming wanted → qy,ready → vt8
open Go.Mode renaming plain → lc2
open Go.Conc renaming events_results_none → jil,events_results_tmp → vk3,served → mz
open List renaming range → yo,length → iK
open Go.Act renaming eval → euo
open Array renaming replicate → jj,size → iL
open Go.Addr renaming add_lit → wh
open Go.Value renaming int → uu,string → pc,pointer → pdw,slice → qh,bool → gd,tuple → js
open Go.Obj renaming cells → oh
open Go.IntKind renaming u8 → qg
open Or renaming inl → r7,inr → kr
open Go.Proofs.Tryz Orch
variable {B L O e u v w:Z}{Bs S X:gV}{Ch K M U b c d db i j n off rb sb sm svb y:Nat}{E:Nat->Nat}{F:vr->Z->Prop}{H W bs l r:gT}{I:gX}{R Y:iA}{T a x:uo}{done:Array Bool}{en k t:Bool}{f fn:x8}{g:Array ox}{h:gS}{m:Array q9}{o:ox}{p q:Prop}{pg:hY}{rc vc:gY}{rt:q9}{z:List qq}
def Qsu(h:p:=by
 rintro x O⟨y,U,rfl,g,C,E,v,s,⟨z,e,d⟩,p⟩;cases e;have K:=O3 s g C p E;exact⟨K,W.kx (λi V=>Dy g V) (λr Y=>K.block r (W.low.obj r Y) (t r Y)),U,λi D=>Rb g C D,by rw[Bh,C.1],d⟩):p:=h
def K5o(k:q)(h:Hd q->p:=by
 intro kz;refine B6 ?_;simp only[A1,As];exact kz.1):p:=h ⟨k⟩
def Ro8(k:q)(h:Hd q->p:=by
 intro kz;refine Au ?_;simp only[A1,As];exact kz.1):p:=h ⟨k⟩
def V2g(k:q)(h:Hd q->p:=by
 intro kz;refine Ar ?_;walk_nrm;exact kz.1):p:=h ⟨k⟩
def Kbd(k:q)(h:Hd q->p:=by
 intro kz;refine A3 (t:=true) Aq ?_;simp only[bQ];exact kz.1):p:=h ⟨k⟩
def Ldr(k:q)(h:Hd q->p:=by
 intro kz
 iterate 4(refine Ar ?_;walk_nrm)
 exact kz.1):p:=h ⟨k⟩
def Trb(k:q)(h:Hd q->p:=by
 intro kz
 iterate 3(refine Ar ?_;walk_nrm)
 exact kz.1):p:=h ⟨k⟩
def Mk2(k:q)(h:Hd q->p:=by
 intro kz
 iterate 2(refine Aw ?_)
 refine A0 ?_;exact kz.1):p:=h ⟨k⟩
def Keu(k:q)(h:Hd q->p:=by
 intro kz;refine Ar ?_;walk_nrm;refine Au ?_;simp only[A1,As];exact kz.1):p:=h ⟨k⟩
def Wad(k:q)(h:Hd q->p:=by
 intro kz
 iterate 2(refine Ar ?_;walk_nrm)
 exact kz.1):p:=h ⟨k⟩
def Wqw(k:q)(h:Hd q->p:=by
 intro kz;refine Aw ?_;refine A0 ?_;exact kz.1):p:=h ⟨k⟩
def Tdr(h:p:=by
 refine Nat.lt_of_not_le λo=>?_;simp[World.cell?,cR o]at g):p:=h
def Atk(h:p:=by
 simp[Instr.sliceAt,Instr.slice,Instr.sliceBounds,Instr.sliceBound,asIntOf,go_sem,Tryz.runUnderlying37,F,C,Result.evThen]):p:=h
def Dur(k:q)(h:Hd q->p:=by
 intro kz;refine A0 ?_
 iterate 4(refine Ar ?_;walk_nrm)
 exact kz.1):p:=h ⟨k⟩
def Tfz(k:q)(h:Hd q->p:=by
 intro kz;refine A0 ?_;refine Ar ?_;walk_nrm;exact kz.1):p:=h ⟨k⟩
def Gd2(k:q)(h:Hd q->p:=by
 intro kz;refine A0 ?_
 iterate 2(refine Ar ?_;walk_nrm)
 exact kz.1):p:=h ⟨k⟩
def Ewe(h:p:=by
 walk_nrm;unfold execOp;simp only[resolve,invoke,builtin,Sem.run_bind,Sem.run_pure,Result.andThen_ok,cG,bC,cM];walk_nrm;rw[ae]
 rfl):p:=h
def K4f(h:p:=by
 refine⟨iI,iI,iI,by rw[Dc];exact aC _,λk E Z=>?_⟩;rw[Bz]
 grind):p:=h
def Fhg(k:q)(h:Hd q->p:=by
 intro kz;refine A3 (t:=false) Ac ?_;simp only[bQ,bR,aR];exact kz.1):p:=h ⟨k⟩
def Mtk(k:q)(h:Hd q->p:=by
 intro kz;walk_nrm
 iterate 5(refine Ar ?_;walk_nrm)
 exact kz.1):p:=h ⟨k⟩
def M8j(k:q)(h:Hd q->p:=by
 intro kz
 iterate 2(refine Aw ?_)
 exact kz.1):p:=h ⟨k⟩
def Rgq(k:q)(h:Hd q->p:=by
 intro kz;refine Au ?_;simp only[A1,As];refine A3 (t:=false) Ac ?_;simp only[bQ,bR,aR];exact kz.1):p:=h ⟨k⟩
def Boo(h:p:=by
 obtain⟨⟨t,R,E⟩,a8⟩:=Z;rw[s.size]at E;exact⟨⟨t,R,E⟩,Bo a8⟩):p:=h
def Dlp(h:p:=by
 rw[aD Ae,aD Ae];exact S.tl e h):p:=h
def Hns(k:q)(h:Hd q->p:=by
 intro kz;refine Dp T iI (λw=>stepG_region_end) ?_;exact kz.1):p:=h ⟨k⟩
def Lm7(k:q)(h:Hd q->p:=by
 intro kz;refine EV.opPure (S:=env Lv) (fn:=46) (x:=x) E iI Ac (B7 Ab) (A6 _ _) (λw=>Ac) (λw=>Ac) ?_;exact kz.1):p:=h ⟨k⟩
def Whj(k:q)(h:Hd q->p:=by
 intro kz;refine Dp T iI (λw=>stepG_region) ?_;exact kz.1):p:=h ⟨k⟩
def Pzo(k:q)(h:Hd q->p:=by
 intro kz;refine Dp T iI (λw=>stepG_seq) ?_;exact kz.1):p:=h ⟨k⟩
def P3v(k:q)(h:Hd q->p:=by
 intro kz;refine Dk (A5 kind B p o n K k) 131 ?_;walk_nrm;refine Au ?_;simp only[A1,As];exact kz.1):p:=h ⟨k⟩
def Jp3(k:q)(h:Hd q->p:=by
 intro kz;refine Aw ?_;refine A0 ?_;refine Dk (A5 kind B p o n K k) 131 ?_;walk_nrm;refine Au ?_;simp only[A1,As];have X:=Ba u (A5 kind B p o n K k) 131 iH;have ae:=C.W.alloc (A5 kind B p o n K k) 131;have Y:(u.alloc (.cells (A5 kind B p o n K k) 131)).1[u.1.size]?=some (.cells (A5 kind B p o n K k) 131):=heap_alloc_new _ _;generalize u.alloc (.cells (A5 kind B p o n K k) 131)=u1 at X ae Y⊢;revert u1 X ae Y;exact kz.1):p:=h ⟨k⟩
def Icn(h:p:=by
 obtain⟨⟨t,R,E⟩,a8⟩:=Z;rw[l.size]at E;exact⟨⟨t,R,E⟩,Bo a8⟩):p:=h
def X0r(h:p:=by
 refine⟨.inl ?_,?_⟩
 ·walk_nrm;go_simp
 ·walk_nrm;intro m he;simp[go_sem,c0,c1,c2,c3,c4,c5,c6]at he;rcases he with rfl|rfl|rfl|rfl|rfl|rfl|rfl<;>exact Cl λZ=>nr (C.W.2 _ Z)):p:=h
def Eqy(k:q)(h:Hd q->p:=by
 intro kz;refine A9.tp 0 N T w ?_;walk_nrm;refine A9.tp 1 N T w ?_;walk_nrm;refine A9.tp 2 N T w ?_;walk_nrm;exact kz.1):p:=h ⟨k⟩
def Maa(k:q)(h:Hd q->p:=by
 intro kz;refine Dp T iI (λw=>stepG_region) ?_;simp only[bD,aV,aW,Nat.reduceAdd,aX,List.range,List.range.loop];exact kz.1):p:=h ⟨k⟩
namespace Go.Proofs
abbrev Tryz.link:Go.Conc.Lib.WgLink:={ add:=61,done:=63,wait:=65,relMerge:=94,disable:=95,enable:=96,inBubble:=97,associate:=98,fatal:=99,uOr:=100,uAdd:=101,raceRead:=102,uLoad:=103,uStore:=104,disassociate:=105,semrelease:=106,acquire:=110,isAssociated:=111,uCas:=112,raceWrite:=113,semacquire:=114,orU64:=152,addU64:=153,loadU64:=154,storeU64:=155,casU64:=157,tWgP:=157,tUP:=159,tAssoc:=160,tWg:=128,tAU:=125,tU64:=123,tUint:=71,tU32:=126,tPU32:=164,tPAU:=220,tPU64:=222,tNoCopy:=120,tANoCopy:=121,tAlign64:=122 }
def Tryz.wgLib:Go.Conc.Lib.WgLib N Tryz.link:=
 ⟨func61,func63,func65,func94,func95,func96,func97,func98,func99,func100,func101,func102,func103,func104,func105,func106,func110,func111,func112,func113,func114,func152,func153,func154,func155,func157,underlying157,runUnderlying157,sizeOf157,isAgg157,zeroValue157,underlying159,runUnderlying159,sizeOf159,isAgg159,zeroValue159,underlying160,runUnderlying160,sizeOf160,isAgg160,zeroValue160,underlying128,runUnderlying128,sizeOf128,isAgg128,zeroValue128,underlying125,runUnderlying125,sizeOf125,isAgg125,zeroValue125,underlying123,runUnderlying123,sizeOf123,isAgg123,zeroValue123,underlying71,runUnderlying71,sizeOf71,isAgg71,zeroValue71,underlying126,runUnderlying126,sizeOf126,isAgg126,zeroValue126,underlying164,runUnderlying164,sizeOf164,isAgg164,zeroValue164,underlying220,runUnderlying220,sizeOf220,isAgg220,zeroValue220,underlying222,runUnderlying222,sizeOf222,isAgg222,zeroValue222,underlying0,runUnderlying0,sizeOf0,isAgg0,zeroValue0,underlying3,runUnderlying3,sizeOf3,isAgg3,zeroValue3,underlying4,runUnderlying4,sizeOf4,isAgg4,zeroValue4,underlying9,runUnderlying9,sizeOf9,isAgg9,zeroValue9,underlying20,runUnderlying20,sizeOf20,isAgg20,zeroValue20,underlying21,runUnderlying21,sizeOf21,isAgg21,zeroValue21,Ab,Ab⟩
end Go.Proofs
namespace Go.Proofs.YtcbilgmfdgpomaaGreatDoor
variable {Q:Exit->Act->Z->Prop}{args:Array Operand}
open Go Go.Conc Go.Pair Go.RowKit
def JO:Hr N:=Aal Ab
def Lv:List x8:=[6,9,11,14,15,16,17,19,21,25,26,29,30,31,32,35,38,39,41,42,54,55,56,57,60,67,71,73,75,76,77,79,80,82,83,84,85,87,88,89,92,93,107,108,109,115,116,117,118,119,124,125,134,135,137,138,139,141,142,144,145,147,148,149,150,151,156,158,160,162,163,164,165,166,167,168,169,170,171,172,174,175,178,179,180,181,182,184,186,187,188,191,192,193,194,195,196,198,199,200,201,202,203,204,205,206,207,210,212,213,214,215,216,217,218,219,220,221,222,226,227,228,229,230,231,232,233,234,235,236,237,238,239,241,242,243,244,245,246,247,248,249,250,251,252,253,254,255,257,259,260,261,262,263,264,265,267,268,269,271]
def Ak4:(Lv.all λf=>QO N Lv f)=km:=Ab
def Ald:=Adu JO λf I=>cZ.1 Ak4 f I
def Ak5:∀f,(Lv.contains f)=km→∃u c,prog.funcs[f]? = lj u∧(u.name == "runtime.NumGoroutine")=sd∧u.body=lj c:=λf I=>by
 have ⟨u,c,C,J,T,_⟩:=Ald f (show f∈Lv by simpa using I)
 grind
def B7{fn}(h:opS N (Lv.contains ·) noD fn o=km):Oi N (env Lv) fn o:=Adt JO Ak5 (λf I=>by simpa using I) (λg e=>HL) h
section
variable {J:gW}
structure VW(J:gW)(Bs u):Prop where
 rows:Go.Pair.RowsIn Bs u
 ji:∀a,J (.cell a)->Bs a.block
 jo:∀r,J (.obj r)->∃o,u.1[r]?=lj o/\o.isChan=km
 jm:∀m,¬J (.mark m)
def VW.lt(h:VW J Bs u){i}(V:Bs i):i<iL u.1:=by
 have ⟨c,e,a,h⟩:=h.rows i V
 grind
def VW.low(h:VW J Bs u):Pk J u.1.size:=⟨λa d=>h.lt (h.2 a d),λr Y=>let⟨o,C,_⟩:=h.3 r Y;(aG.1 C).1⟩
def VW.blind(h:VW J Bs u):Ko J (Bb Bs u):=λe N W=>by
 have ⟨l,wr,Y⟩:=e;cases l with
 |cell a=>
  have ⟨x,Z⟩:=N;have:=Yi (Fy h.rows) (h.2 a W)
  grind
 |obj r=>
  have ⟨o,C,b⟩:=h.3 r W;have ⟨I,T,q,z⟩:=N;rw[Bz,C,aI]at T;obtain rfl:=aB T;refine⟨⟨r,iI⟩,z ?_⟩;split
  ·cases o<;>first|exact b|cases b
  ·exact b
 |mark m=>exact absurd W (h.4 m)
 |output=>exact N.elim
 |goroutines=>exact N.elim
def X4(Bs:gV)(u v:Z):Prop:=Go.Pair.Twin (Bb Bs u) v
def X4.size(h:X4 Bs u v):iL v.1=iL u.1:=by rw[h.1];exact Dc
def X4.same(h:X4 Bs u v)(D:¬Bs i):v.1[i]?=u.1[i]?:=by
 rw[h.1,Bz]
 grind
def O3{U x}(C:X4 Bs u v)(J:De Bs u x)(T:Go.Pair.Twin x U)(q:Ax v U X)(R:x.tape=u.tape):Ax u (Cb Bs u x) X:=by
 have a:=C.size;have N:iL U.1=iL x.1:=by rw[T.1]
 refine⟨?_,R,?_,by rw[Bh];have:=q.size;omega,λk E Z=>?_⟩
 ·show x.os=u.os;rw[←T.os,q.os,C.os];rfl
 ·show x.output=u.output;rw[←T.output,q.output,C.output];rfl
 ·by_cases D:Bs k
  ·exact Dy J D
  ·rw[By D,←T.1,←C.same D];exact q.block k Aa Z
def Rb{U x}(J:De Bs u x)(T:Go.Pair.Twin x U)(D:¬Bs i):U.1[i]?=(Cb Bs u x).1[i]?:=by rw[By D,T.1]
def VW.kx(h:VW J Bs u)(E:∀i,Bs i->O.1[i]?=u.1[i]?)(a:∀r,J (.obj r)->O.1[r]?=u.1[r]?):VW J Bs O:=
 ⟨λi V=>by rw[E i V];exact h.rows i V,h.2,λr Y=>by rw[a r Y];exact h.3 r Y,h.4⟩
def VW.ofK(h:VW J Bs u)(E:Ax u O X)(C:∀i,Bs i->¬X i)(a:∀r,J (.obj r)->¬X r):=
 h.kx (λi V=>E.block i (h.lt V) (C i V)) λr Y=>E.block r (h.low.obj r Y) (a r Y)
def Gg{f}(I:f∈Lv)(W:VW J Bs u){args:gY}{R:iA}(t:∀r,J (.obj r)->¬X r)(H:∀v,X4 Bs u v->Calls N f args v λe B=>(∃x,e=.returned x/\R x B)/\Ax v B X):Bg N k J F f args u λx O=>Ax u O X/\VW J Bs O/\∃U,(∀i,¬Bs i->U.1[i]?=O.1[i]?)/\iL U.1=iL O.1/\R x U:=by
 refine Bq (Na Ald (show f∈Lv from I) W.rows W.blind W.low (A6 _ _) (R:=λe B=>∃v,X4 Bs u v/\(∃x,e=.returned x/\R x B)/\Ax v B X) (λj v h=>?_) (λv h=>?_) (λv s=>(H v s).mono λe B h=>⟨v,s,h⟩)) ?_
 ·grind
 ·grind
 ·exact Qsu
end
section
variable {J:gW} {a:Act} {v':Z} {M:Region.Mode} {G:ox} {S:Env} {l:hZ}
def JM(W:qy G (iu g a.tmps)=km)(V:Oi y7 S fn G)(j:S.reg fn a.tmps)(Y:∀e,(execOp a.eval G).run y7 e=.ok (.value x) e)(N:∀e,(execOp a.eval G).events y7 e #[]=#[]):YV y7 J g I G x a:=
 ⟨λh=>absurd (W.symm.trans h) Ad,λ_ e _=>Rh V j Y N⟩
def Gj(W:qy G (iu g a.tmps)=km)(V:Oi N S fn G)(j:S.reg fn a.tmps)(h:∀e,I e->Go.Pair.Yields N (execOp a.eval G) e x e/\∀b∈(execOp a.eval G).events N e #[],Ff J b):YV N J g I G x a:=
 ⟨λh=>absurd (W.symm.trans h) Ad,λ_ e o=>Qo V j (h e o).1 (h e o).2⟩
def Ca{X}(H:Bg N k J F f X e Y)(c:vt8 M g done = [i])(O:g[i]?=lj o)(W:qy o (iu g a.tmps)=km)(T:o.op=.call { callee:=.value (.func f),args,argTypes:=m })(d:args.map a.eval=X)(h:∀x B,Y x B->I B/\A9 N k J F M g Q I b (done.setIfInBounds i km) (a.put o.dst x) B)(E:args.all (Eh prog.globals.size)=km:=by first|rfl|(simp[Eh];done)|kernel_rfl):=
 A9.only c (.call o f args m Y O W T E (by rwa[d]) h)
def AE(c:∀e d,I e->I (e.at d))(f:∀a e d,Q .normal a e->Q .normal a (e.at d))(O:g[i]?=lj o)(W:qy o (iu g a.tmps)=km)(V:Oi y7 S fn o)(j:S.reg fn a.tmps)(Y:∀d,Go.Pair.Yields y7 (execOp a.eval o) (e.at d) x (v'.at d))(N:∀d,∀h∈(execOp a.eval o).events y7 (e.at d) #[],Ff J h)(H:I v')(l:A9 y7 k J F M g Q I b (done.setIfInBounds i km) (a.put o.dst x) v'):DI y7 k J F g i (λm B=>I B/\A9 y7 k J F M g Q I b (done.setIfInBounds i km) m B) a e:=
 .op o O W λ_ d=>⟨x,v'.at d,Qo V j (Y d) (N d),c _ d H,A9.at c f _ _ _ _ d l⟩
def Qw(c:∀e d,I e->I (e.at d))(f:∀a e d,Q .normal a e->Q .normal a (e.at d))(G:vt8 M g done = [i])(O:g[i]?=lj o)(W:qy o (iu g a.tmps)=km)(V:Oi y7 S fn o)(j:S.reg fn a.tmps)(Y:∀d,Go.Pair.Yields y7 (execOp a.eval o) (e.at d) x (v'.at d))(N:∀d,∀h∈(execOp a.eval o).events y7 (e.at d) #[],Ff J h)(H:I v')(l:A9 y7 k J F M g Q I b (done.setIfInBounds i km) (a.put o.dst x) v'):=
 A9.only G (AE c f O W V j Y N H l)
def KE(G:vt8 M g done = [i,j])(V:DI N k J F g i (λl B=>I B/\A9 N k J F M g Q I b (done.setIfInBounds i km) l B) a e)(c:DI N k J F g j (λl B=>I B/\A9 N k J F M g Q I b (done.setIfInBounds j km) l B) a e):A9 N k J F M g Q I (b+1) done a e:=by
 refine⟨λh=>(by rw[G]at h;cases h),λd E=>?_⟩;rw[G]at E;simp at E;rcases E with rfl|rfl
 ·exact V
 ·exact c
def MN{X}{K:Act->Z->Prop}(H:Bg N k J F f X e Y)(O:g[i]?=lj o)(W:qy o (iu g a.tmps)=km)(T:o.op=.call { callee:=.value (.func f),args,argTypes:=m })(b:args.map a.eval=X)(c:∀x B,Y x B->K (a.put o.dst x) B)(E:args.all (Eh prog.globals.size)=km:=by first|rfl|(simp[Eh];done)|kernel_rfl):DI N k J F g i K a e:=
 .call o f args m Y O W T E (by rwa[b]) c
def WK(W:VW J Bs e)(G:vt8 M g done = [i])(O:g[i]?=lj o)(l:qy o (iu g a.tmps)=km)(V:Oi N S fn o)(j:S.reg fn a.tmps){R:iA}{X}(t:∀r,J (.obj r)->¬X r)(H:∀L,X4 Bs e L->∃x p,Go.Pair.Yields N (execOp a.eval o) L x p/\R x p/\Ax L p X)(d:∀x B p,Ax e B X->VW J Bs B->(∀i,¬Bs i->p.1[i]?=B.1[i]?)->iL p.1=iL B.1->R x p->I B/\A9 N k J F M g Q I b (done.setIfInBounds i km) (a.put o.dst x) B):A9 N k J F M g Q I (b+1) done a e:=by
 refine A9.only G (.op o O l λv w=>?_);obtain⟨x,u,C,c,T,L,s,q,z⟩:=AR (J:=J) (Bs:=Bs) V j W.rows W.blind W.low (R:=λx p=>∃L,X4 Bs e L/\R x p/\Ax L p X) (λL s=>let⟨x,p,m,f,h⟩:=H L s;⟨x,p,m,L,s,f,h⟩) w v;have K:=O3 (Bs:=Bs) s c (.refl u) z T;exact⟨x,_,C,d x _ u K (W.kx (λi n=>Dy c n) λr Y=>K.block r (W.low.obj r Y) (t r Y)) (λi D=>(By D).symm) (by rw[Bh]) q⟩
def Dw(W:VW J Bs e)(O:g[i]?=lj o)(b:qy o (iu g a.tmps)=km)(V:Oi N S fn o)(j:S.reg fn a.tmps){R:iA}{X}(t:∀r,J (.obj r)->¬X r)(H:∀L,X4 Bs e L->∃x p,Go.Pair.Yields N (execOp a.eval o) L x p/\R x p/\Ax L p X)(d:∀x B p,Ax e B X->VW J Bs B->(∀i,¬Bs i->p.1[i]?=B.1[i]?)->iL p.1=iL B.1->R x p->opsV N k J F fn g l Q (a.put o.dst x) B):=
 YL (S:=S) (Bs:=Bs) O b V j W.rows W.blind W.low (R:=λx p=>∃L,X4 Bs e L/\R x p/\Ax L p X) (λL s=>let⟨x,p,m,f,h⟩:=H L s;⟨x,p,m,L,s,f,h⟩) λx u c T⟨L,s,q,z⟩=>
  have K:=O3 (Bs:=Bs) s c (.refl u) z T
  d x _ u K (W.kx (λi n=>Dy c n) λr Y=>K.block r (W.low.obj r Y) (t r Y)) (λi D=>(By D).symm) (by rw[Bh]) q
def A2{X n}(H:Bg N k J F f X e n)(O:g[i]?=lj o)(W:qy o (iu g a.tmps)=km)(T:o.op=.call { callee:=.value (.func f),args,argTypes:=m })(b:args.map a.eval=X)(c:∀v B,n v B->opsV N k J F fn g l Q (a.put o.dst v) B)(E:args.all (Eh prog.globals.size)=km:=by first|rfl|(simp[Eh];done)|kernel_rfl):=
 EL O W T (by rwa[b]) c E
end
def na:(∀l:List uo,l.toArray.size=iK l)/\(∀(a:uo) l,(a::l).length=iK l+1)/\([]:gZ).length=0/\(∀n (a:uo),jj (n+1) a=(jj n a).push a)/\(∀a:uo,jj 0 a=#[])/\(∀(l:gZ) a,l.toArray.push a=(l++[a]).toArray)/\(∀l m:List uo,l.toArray++m.toArray=(l++m).toArray)/\(∀l:List uo,[]++l=l)/\∀(a:uo) l m,a::l++m=a::(l++m):=by
 refine⟨?_,?_,?_,?_,?_,?_,?_,?_,?_⟩<;>intros<;>first|rfl|exact dE|simp
section
variable {P:Program} {J:gW} {d:x8} {a:Act} {l:hZ}
def A0(h:opsV P k J F d g l Q a e)(K:List.range g.size=l:=by(simp only[bD,aV,aW,Nat.reduceAdd,aX,List.range,List.range.loop];exact iI)):Hp P k J F d (.region n g false) Q a e:=Pc (K▸h)
def Ar{x}(h:opsV Tryz.prog k J F d g l Q (a.put o.dst x) e)(O:g[i]?=some o:=by exact iI)(W:Region.wanted o (yielded g a.tmps)=true:=by rfl)(V:Oi Tryz.prog (env Lv) d o:=by exact B7 Ab)(Y:∀e,(execOp a.eval o).run Tryz.prog e=.ok (.value x) e:=by(intro b;first|rfl|(go_simp;done)|(go_simp;rfl)))(N:∀e,(execOp a.eval o).events Tryz.prog e #[]=#[]:=by(intro b;first|rfl|(go_simp;done)|(go_simp;rfl))):=Gl (S:=env Lv) O W V (A6 _ _) Y N h
def Cd(x)(h:opsV Tryz.prog k J F d g l Q (a.put o.dst x) e)(O:g[i]?=some o:=by exact iI)(W:Region.wanted o (yielded g a.tmps)=true:=by rfl)(V:Oi Tryz.prog (env Lv) d o:=by exact B7 Ab)(Y:∀e,(execOp a.eval o).run Tryz.prog e=.ok (.value x) e:=by(intro b;first|rfl|(go_simp;done)|(go_simp;kernel_rfl)|(go_simp;rfl)))(N:∀e,(execOp a.eval o).events Tryz.prog e #[]=#[]:=by(intro b;first|rfl|(go_simp;done)|(go_simp;rfl))):=Gl (S:=env Lv) O W V (A6 _ _) Y N h
def Bp{u x p}(M:u.cell? p=some x)(f:¬J (.cell p))(h:opsV Tryz.prog k J F d g l Q (a.put o.dst x) u)(O:g[i]?=some o:=by exact iI)(W:Region.wanted o (yielded g a.tmps)=true:=by rfl)(V:Oi Tryz.prog (env Lv) d o:=by exact B7 Ab)(Y:∀b,(u.at b).cell? p=some x->(execOp a.eval o).run Tryz.prog (u.at b)=.ok (.value x) (u.at b):=by(intro j c;walk_nrm;go_simp))(N:¬J (.cell p)->∀b,(u.at b).cell? p=some x->∀m∈(execOp a.eval o).events Tryz.prog (u.at b) #[],Ff J m:=by(intro n j c;walk_nrm;intro D e;simp[go_sem,c]at e;subst e;exact Cl n)):=Cy (S:=env Lv) O W V (A6 _ _) (λb=>.inl (Y b M)) (λb=>N f b M) h
def Dk{u}(cs I)(h:opsV Tryz.prog k J F d g l Q (a.put o.dst (.pointer (some ⟨iL u.1,0,none⟩))) (u.alloc (.cells cs I)))(O:g[i]?=some o:=by exact iI)(W:Region.wanted o (yielded g a.tmps)=true:=by rfl)(V:Oi Tryz.prog (env Lv) d o:=by exact B7 Ab)(Y:∀b,(execOp a.eval o).run Tryz.prog (u.at b)=.ok (.value (.pointer (some ⟨iL u.1,0,none⟩))) ((u.alloc (.cells cs I)).at b):=by(intro c;walk_nrm;go_simp;first|done|rfl|exact⟨iI,iI⟩))(N:∀b,∀e∈(execOp a.eval o).events Tryz.prog (u.at b) #[],Ff J e:=by(intro c;walk_nrm;intro D f;simp[go_sem]at f)):opsV Tryz.prog k J F d g (i::l) Q a u:=Cy (S:=env Lv) O W V (A6 _ _) (λb=>.inl (Y b)) N h
end
def A9.tp{J}{b:Goroutine->World->Prop}{g}{I:World->Prop}{a w M}{Q:Exit->Act->World->Prop}{G x d}(i)(o:∀w e,I w->I (w.at e))(f:∀a w e,Q .normal a w->Q .normal a (w.at e))(H:I w)(h:A9 Tryz.prog d J b M g Q I c (done.setIfInBounds i true) (a.put G.dst x) w)(V:g[i]?=some G:=by exact iI)(s:Region.noSelect g=true:=by kernel_rfl)(j:Region.free M g done i=true:=by kernel_rfl)(Y:(Region.ready M g done).contains i=true:=by kernel_rfl)(W:Region.wanted G (yielded g a.tmps)=true:=by rfl)(k:Oi Tryz.prog (env Lv) 0 G:=by exact B7 Ab)(Z:∀w,(execOp a.eval G).run Tryz.prog w=.ok (.value x) w:=by(intro l;first|rfl|(go_simp;done)|(go_simp;rfl)))(N:∀w,(execOp a.eval G).events Tryz.prog w #[]=#[]:=by(intro l;first|rfl|(go_simp;done)|(go_simp;rfl))):A9 Tryz.prog d J b M g Q I (c+1) done a w:=A9.take o f V s j Y (JM (S:=env Lv) W k (A6 _ _) Z N) H h
def A9.tl{J}{b:vr->gk->Prop}{a M G d p}(i)(o:∀w e,I w->I (w.at e))(k:∀a w e,Q .normal a w->Q .normal a (w.at e))(H:I w)(f:∀w,I w->w.cell? p=lj x)(l:¬J (.cell p))(m:A9 y7 d J b M g Q I c (done.setIfInBounds i km) (a.put G.dst x) w)(V:g[i]?=lj G:=by exact iI)(s:Region.noSelect g=km:=by kernel_rfl)(n:Region.free M g done i=km:=by kernel_rfl)(Y:(vt8 M g done).contains i=km:=by kernel_rfl)(W:qy G (iu g a.tmps)=km:=by rfl)(q:Oi y7 (env Lv) 0 G:=by exact B7 Ab)(Z:∀w,w.cell? p=lj x->(execOp a.eval G).run y7 w=.ok (.value x) w:=by(intro r h;walk_nrm;go_simp))(N:∀w,w.cell? p=lj x->¬J (.cell p)->∀t∈(execOp a.eval G).events y7 w #[],Ff J t:=by(intro r h u;walk_nrm;intro D j;simp[go_sem,h]at j;subst j;exact Cl u)):A9 y7 d J b M g Q I (c+1) done a w:=
 A9.take o k V s n Y (Gj (S:=env Lv) W q (A6 _ _) λw W=>⟨r7 (Z w (f w W)),N w (f w W) l⟩) H m
section
variable {J:gW} {tl:Bool}
def Cg(h:v.1[b]?=u.1[b]?):v.cell? (iD b j)=u.cell? (iD b j):=by unfold ur;rw[h]
def Nf(h:v.1[b]?=u.1[b]?):v.frozen? (iD b j)=u.frozen? (iD b j):=by unfold tv;rw[h]
def Dh{X:gZ}(h:u.ownsRow 0 5 1 a n X)(E:∀g,a.ownBlock=lj g->L.1[g]?=u.1[g]?):L.ownsRow 0 5 1 a n X:=by
 obtain⟨F,C|⟨g,I,H,rfl,J,T,q⟩⟩:=h
 ·exact⟨F,r7 C⟩
 ·exact⟨F,kr ⟨g,I,H,iI,J,by rwa[E g iI],q⟩⟩
def Cm{X:gZ}(h:u.ownsRow 0 5 1 a n X){g}(G:a.ownBlock=lj g):g<iL u.1:=by
 obtain⟨_,⟨rfl,_⟩|⟨R,I,H,rfl,_,T,_⟩⟩:=h
 ·cases G
 ·obtain rfl:R=g:=by simpa[Value.ownBlock] using G
  exact ltOf T
def KL(h:Bytes w b off r)(F:0<iK r):b<iL w.1:=by
 have g:=h 0 F;exact Tdr
def Tt(h:Bytes u b off r)(K:Ax u O X)(t:¬X b):Bytes O b off r:=λi V=>(Cg (K.block b (KL h Aa) t)).trans (h i V)
def Ba(w)(cs:gY)(I X):Ax w (w.alloc (oh cs I)) X:=Ax.of_below (Bf _ _) (aC _)
def VW.alloc(W:VW J Bs w)(cs:gY)(I):=W.ofK (Ba w cs I λ_=>False) (λ_ _ h=>h) λ_ _ h=>h
def VW.at(W:VW J Bs u)(d):VW J Bs (u.at d):=⟨W.rows,W.2,W.3,W.4⟩
def Ax.at(h:Ax u O X)(d):Ax u (O.at d) X:=⟨h.os,h.tape,h.output,h.size,h.block⟩
def Ax.ofAt(h:Ax (u.at d) O X):Ax u O X:=⟨h.os,h.tape,h.output,h.size,h.block⟩
def Et(w b j x):Ax w (w.setCell (iD b j) x) (· = b):=
 ⟨iI,iI,iI,Ad,λk E Z=>Eg _ _ Z⟩
def Ae4(h:Go.Pair.RowsIn Bs w):Go.Pair.RowsIn Bs (w.setCell (iD b j) x):=λi V=>by
 have ⟨c,e,a,C⟩:=h i V;by_cases D:i=b
 ·refine⟨c.setIfInBounds j x,e,a,?_⟩;unfold World.setCell
  grind
 ·exact⟨c,e,a,by rwa[Eg _ _ D]⟩
def Jf(c:gY):Prop:=∀x∈c,∀m,Az m x=x
def Jf.map{c}(h:Jf c)(m):c.map (Az m)=c:=by
 refine bX λi=>?_;rw[aN];cases V:c[i]? with
 |none=>rfl
 |some x=>rw[aI,h x (cF V)]
def IntsIn(u:Z)(a:uo):Prop:=∀g cc,a.ownBlock=lj g->u.1[g]?=lj (oh cc 5 (0,0))->Jf cc
structure M7(J Bs u sb U a tl)(l:gT):Prop where
 W:VW J Bs u
 inb:Bs sb
 j0:¬J (.cell (iD sb U))
 j1:¬J (.cell ⟨sb,U+1,jh⟩)
 c0:u.cell? (iD sb U)=lj a
 c1:u.cell? ⟨sb,U+1,jh⟩=lj (gd tl)
 f0:u.frozen? (iD sb U)=sd
 f1:u.frozen? ⟨sb,U+1,jh⟩=sd
 own:u.ownsRow 0 5 1 a (iK l) (A4 l)
 ap:∀g,a.ownBlock=lj g->¬Bs g
 ints:IntsIn u a
def M7.at(C:M7 J Bs u sb U a tl l)(d):M7 J Bs (u.at d) sb U a tl l:=⟨C.W.at d,C.inb,C.j0,C.j1,C.c0,C.c1,C.f0,C.f1,C.own,C.ap,C.ints⟩
def M7.kx(C:M7 J Bs u sb U a tl l)(K:Ax u O X)(W:VW J Bs O)(t:¬X sb)(H:∀g,a.ownBlock=lj g->¬X g):M7 J Bs O sb U a tl l:=
 have e:=K.block sb (C.W.lt C.inb) t
 ⟨W,C.inb,C.j0,C.j1,(Cg e).trans C.c0,(Cg e).trans C.c1,(Nf e).trans C.f0,(Nf e).trans C.f1,Dh C.own λg G=>K.block g (Cm C.own G) (H g G),C.ap,λg b G h=>C.ints g b G ((K.block g (Cm C.own G) (H g G)).symm.trans h)⟩
def M7.slice(C:M7 J Bs u sb U a tl l):∃b c,a=qh b (iK l) c:=by
 rcases C.own with⟨_,⟨rfl,h⟩|⟨g,I,H,rfl,_⟩⟩
 ·grind
 ·exact⟨_,_,iI⟩
def Wi(h:w.ownsRow 0 5 1 a (iK l) (A4 l))(F:0<iK l):∃g b,a=qh (lj (iC g)) (iK l) b/\iK l<=b/\Bytes w g 0 l:=by
 obtain⟨_,⟨_,C⟩|⟨g,b,H,rfl,_,D,M,L,s,R⟩⟩:=h
 ·omega
 ·refine⟨g,b,iI,M,λi V=>?_⟩;have I:(H.toList.take (iK l * 1))[i]?=lj (uu qg l[i].toNat):=by rw[R];simp[A4,aH V]
  rw[dD Aa,cN]at I;rw[aX];exact cellOf D I
def Jq(l:gT):Int:=if iK l<4 then 4 - iK l else 4+uns (l.take 4) - iK l
def lenOf(l:gT):Nat:=if iK l<4 then 0 else uns (l.take 4)
def Adc(l):lenOf l<4294967296:=by
 unfold lenOf;split
 ·omega
 ·have:=uns_lt (l.take 4)
  grind
def P3(w X)(a:hU)(d I:Nat)(h:Int)(F:0<=h)(C:h<=I):(Instr.sliceAt 37 (qh a d I) jh (lj (iE h)) jh).events N w X=X:=by
 exact Atk
def Xi(w X)(a:hU)(b I:Nat)(l:Int)(F:0<=l)(C:l<=b):(Instr.sliceAt 37 (qh a b I) (lj (iE l)) jh jh).events N w X=X:=by
 exact Atk
def UP(C:M7 J Bs u sb U a tl l):Bg N k J F 108 #[pdw (lj (iD sb U))] u λy O=>y=uu .u64 (lenOf l)/\Ax u O iH/\M7 J Bs O sb U a tl l:=by
 obtain⟨d,b,rfl⟩:=C.slice;have c0:=C.c0;refine Bl func108 Ac iI (R:=λv=>v.getD 2 qp) (λ_ _=>results_tmp Ac _ _ _) (λ_ _=>vk3 Ac _ _) ?_;simp only[ntmps108,na,Nat.reduceAdd,Nat.reduceSub];refine Wqw ?_;refine Keu ?_;refine Mk2 ?_;refine Trb ?_;refine Bp c0 C.j0 ?_;walk_nrm;refine V2g ?_;by_cases q:iK l<4
 ·have S:(iK l:Int)<4:=Aa;refine Keu ?_;refine Kbd ?_;refine Wqw ?_;refine Keu ?_;refine Dt ?_;simp only[A1];exact⟨kr trivial,trivial,by unfold lenOf;rw[aL q];rfl,.refl _ _,C⟩
 ·have S:¬(iK l:Int)<4:=Aa;refine Keu ?_;refine A3 (t:=sd) HZ ?_;simp only[bR,aR];refine K5o ?_;obtain⟨g,f,c,M,o⟩:=Wi C.own Aa;cases c;have t:(4:Int)<=(b:Int):=Aa;refine Wqw ?_;refine Trb ?_;refine Bp c0 C.j0 ?_;walk_nrm;refine Gl (S:=env Lv) (x:=qh (lj (iC g)) 4 b) iI Ac (B7 Ab) (A6 _ _) Ams (λe=>by have r:=λX=>P3 e X (lj (iC g)) (iK l) b 4 Aa t;go_simp;first|done|rfl) ?_;walk_nrm;refine A2 (Gg (f:=156) (args:=#[qh (lj (iC g)) 4 b]) Ae C.W (X:=λ_=>False) (R:=λx _=>x=uu .u64 (uns (l.take 4))) (λ_ _ h=>h) λL s=>?_) iI Ac iI Af ?_
  ·exact(Ii L g 0 4 b (l.take 4) Ah Aa λi V=>by
    have p:i<iK l:=by simp at V;omega
    rw[List.getElem_take];exact(Cg (s.same (C.ap g iI))).trans (o i p)).mono λc B h=>⟨⟨_,h.1,iI⟩,by rw[h.2];exact Ax.refl _ _⟩
  rintro y Z⟨H,P,_,_,_,rfl⟩;walk_nrm;refine Keu ?_;refine Dt ?_;exact⟨kr iI,iI,by unfold lenOf;rw[aM q];rfl,H,C.kx H P (λh=>h) λ_ _ h=>h⟩
def MF(C:M7 J Bs u sb U a tl l)(K:iK l<=5000):Bg N k J F 107 #[pdw (lj (iD sb U))] u λy O=>y=iE (Jq l)/\Ax u O iH/\M7 J Bs O sb U a tl l:=by
 obtain⟨d,e,rfl⟩:=C.slice;have c0:=C.c0;have W:∀x:Int,-9223372036854775808<=x->x<=9223372036854775807->IntKind.i64.wrap x=x:=λx p r=>by rw[IntKind.wrap_i64];omega
 refine Bl func107 Ac iI (R:=λv=>v.getD 2 qp) (λ_ _=>results_tmp Ac _ _ _) (λ_ _=>vk3 Ac _ _) ?_;simp only[ntmps107,na,Nat.reduceAdd,Nat.reduceSub];refine Wqw ?_;refine Keu ?_;refine Mk2 ?_;refine Trb ?_;refine Bp c0 C.j0 ?_;walk_nrm;refine V2g ?_;by_cases q:iK l<4
 ·have S:(iK l:Int)<4:=Aa;refine Keu ?_;refine Kbd ?_;refine Wqw ?_;refine Trb ?_;refine Bp c0 C.j0 ?_;walk_nrm;refine Trb ?_;refine Ro8 ?_;refine Dt ?_;simp only[A1];exact⟨kr trivial,trivial,by unfold Jq;rw[aL q];show Value.int _ (IntKind.i64.wrap _)=_;rw[W _ Aa Aa],.refl _ _,C⟩
 ·have S:¬(iK l:Int)<4:=Aa;refine Keu ?_;refine A3 (t:=sd) HZ ?_;simp only[bR,aR];refine K5o ?_;have t:=Adc l;refine Aw ?_;have o:∀(w:gk)(f:Nat),w.cell? (iD sb U)=lj (qh d (iK l) e)->(w.at f).cell? (iD sb U)=lj (qh d (iK l) e):=λ_ _ h=>h;refine Da (Q:=λg c B=>g=.normal/\c.defers = []/\c.tmps[2]?.getD qp=iE (Jq l)/\Ax u B iH/\M7 J Bs B sb U (qh d (iK l) e) tl l) ?_ λg c B h=>by
   obtain⟨rfl,h⟩:=h;simp only[A1];exact Dt ⟨kr iI,h⟩
  have b:∀(c:Act)(w:gk)(f:Nat),((uz7=uz7)/\c.defers = []/\c.tmps[2]?.getD qp=iE (Jq l)/\Ax u w iH/\M7 J Bs w sb U (qh d (iK l) e) tl l)->((uz7=uz7)/\c.defers = []/\c.tmps[2]?.getD qp=iE (Jq l)/\Ax u (w.at f) iH/\M7 J Bs (w.at f) sb U (qh d (iK l) e) tl l):=
   λc w f⟨i,j,z,G,X⟩=>⟨i,j,z,G.at f,X.at f⟩
  refine Em (I:=λw=>w.cell? (iD sb U)=lj (qh d (iK l) e)) Ac λm=>?_;refine A9.tp 0 o b c0 ?_;walk_nrm;refine A9.tp 4 o b c0 ?_;walk_nrm;refine A9.tp 5 o b c0 ?_;walk_nrm;refine A9.tp 6 o b c0 ?_;walk_nrm;refine A9.tl 7 o b c0 (λw (h:w.cell? (iD sb U)=lj (qh d (iK l) e))=>h) C.j0 ?_;walk_nrm;refine A9.tp 8 o b c0 ?_;walk_nrm;refine Ca (i:=1) (UP (C.at m)) Ab iI Ac iI Af ?_;rintro y Z⟨rfl,H,n⟩;refine⟨n.c0,?_⟩;walk_nrm;refine A9.tp 2 o b n.c0 ?_;walk_nrm;refine A9.tp 3 o b n.c0 ?_;walk_nrm;refine A9.tp 9 o b n.c0 ?_;walk_nrm;refine A9.tp 10 o b n.c0 ?_;walk_nrm;refine A9.all Ab ⟨iI,iI,?_,H.ofAt,n⟩ _
  show Value.int _ _=_;unfold Jq;rw[aM q];have s:(lenOf l:Int)=uns (l.take 4):=by unfold lenOf;rw[aM q]
  rw[←s];rw[W (lenOf l:Int) Aa Aa,W (4+(lenOf l:Int)) Aa Aa,W _ Aa Aa]
def Md(x o j cap:Nat):Option Addr:=if cap=j then lj (iD x o) else lj ⟨x,o+j,jh⟩
def Anc(C:M7 J Bs u sb U a tl l)(h4:4<=iK l)(hl:iK l<=5000):Bg y7 k J F 109 #[pdw (lj (iD sb U))] u λy O=>y=qh (lj (iC u.1.size)) (iK l - 4) (iK l - 4)/\O.1[iL u.1]?=lj (oh (A4 (l.drop 4)).toArray 5)/\Ax u O iH/\M7 J Bs O sb U a tl l:=by
 obtain⟨g,b,rfl,hc,T⟩:=Wi C.own Aa;have c0:=C.c0;obtain⟨o,V,p,G,Y⟩:=info_parts Tryz.info5;have ad:IntKind.i64.wrap ((iK l:Int) - 4)=iK l - 4:=by rw[IntKind.wrap_i64];omega
 have D:(A4 (l.drop 4)).length=iK l - 4:=by simp[A4]
 refine Bl func109 Ac iI (R:=λv=>v.getD 2 qp) (λ_ _=>results_tmp Ac _ _ _) (λ_ _=>vk3 Ac _ _) ?_;simp only[ntmps109,na,Nat.reduceAdd,Nat.reduceSub];refine Wqw ?_;refine Keu ?_;refine Wqw ?_;refine Trb ?_;refine Bp c0 C.j0 ?_;walk_nrm;refine V2g ?_;refine Cd (iE ((iK l:Int) - 4)) ?_;walk_nrm;refine Dw (i:=6) (S:=env Lv) C.W iI Ac (B7 Ab) (A6 _ _) (X:=λ_=>False) (R:=λx A=>x=qh (lj (iC u.1.size)) (iK l - 4) (iK l - 4)/\A.1[iL u.1]?=lj (oh (oro #[Value.int qg 0] (iK l - 4)) 5)) (λ_ _ d=>d) (λw s=>?_) ?_
 ·have H:=run_make (P:=y7) w 37 5 o _ pfr V p .i64 .i64 ((iK l:Int) - 4) ((iK l:Int) - 4) Aa Aa (by rw[Y];omega) Aa;rw[show((iK l:Int) - 4).toNat=iK l - 4 by omega,G,gO]at H;refine⟨qh (lj (iC w.1.size)) (iK l - 4) (iK l - 4),w.alloc (oh (oro #[Value.int qg 0] (iK l - 4)) 5),r7 ?_,⟨by rw[s.size],by rw[←s.size];exact iw _ _⟩,Ba _ _ _ _⟩;walk_nrm;go_simp
 rintro y u1 E h W1 K z⟨rfl,B⟩;have n:=C.kx h W1 (λd=>d) λ_ _ d=>d;have W:¬Bs u.1.size:=λd=>by have:=C.W.lt d;omega
 rw[K _ W]at B;have a1:=Tt T h λd=>d;clear K z E;walk_nrm;refine Keu ?_;refine Wqw ?_;refine Ldr ?_;refine Bp n.c0 C.j0 ?_;walk_nrm;have t:(4:Int)<=(iK l:Int):=Aa;have h6:(iK l:Int)<=(b:Int):=Aa;refine Gl (S:=env Lv) (x:=qh (Md g 0 4 b) (iK l - 4) (b - 4)) iI Ac (B7 Ab) (A6 _ _) Ams (λe=>by have r:=λX=>Xi e X (lj (iC g)) (iK l) b 4 Aa t;go_simp;first|done|rfl) ?_;walk_nrm;obtain⟨I,a6,a7⟩:∃I,Md g 0 4 b=lj (iD g I)/\(4<iK l->I=4):=by
  unfold Md;split
  ·exact⟨0,iI,λ_=>Aa⟩
  ·exact⟨4,iI,λ_=>rfl⟩
 rw[a6];refine Dw (i:=6) (S:=env Lv) n.W iI Ac (B7 Ab) (A6 _ _) (X:=λi=>i=iL u.1) (R:=λx A=>A.1[iL u.1]?=lj (oh (A4 (l.drop 4)).toArray 5)) (λae hr d=>?_) (λw s=>?_) ?_
 ·subst d;obtain⟨af,L,a8⟩:=n.W.3 _ hr;rw[B]at L;obtain rfl:=aB L;cases a8
 ·have M:w.1[iL u.1]?=lj (oh (oro #[Value.int qg 0] (iK l - 4)) 5):=(s.same W).trans B;have N:=run_copy_row (P:=y7) w 37 37 3 5 u.1.size 0 (iK l - 4) (iK l - 4) (iD g I) (iK l - 4) (b - 4) _ 5 (A4 (l.drop 4)) pfr (by rw[V];simp[G]) M (by rw[D];exact(Nat.min_self _).symm)
   (λq x f=>by
    have aa:q<(l.drop 4).length:=by have:=(aF.1 f).1;simpa[A4] using this
    have P:4+q<iK l:=by simp at aa;omega
    have Q:=a1 (4+q) P;have e2:x=uu qg (l[4+q].toNat):=by
     simp only[A4,aS,List.getElem?_drop,aH P,aI,aT]at f;exact f.symm
    rw[wh,e2,a7 Aa];rw[aX]at Q;exact(Cg (s.same (C.ap g iI))).trans Q) (by rw[D,size_madeCells];omega) (λx Z=>by
     obtain⟨y,_,rfl⟩:=aZ.1 Z
     rfl)
  have e1:(List.take 0 (oro #[Value.int qg 0] (iK l - 4)).toList++A4 (l.drop 4)++List.drop (0+(A4 (l.drop 4)).length) (oro #[Value.int qg 0] (iK l - 4)).toList).toArray=(A4 (l.drop 4)).toArray:=by
   congr 1
   rw[toList_madeCells_one,List.drop_replicate,D,show iK l - 4 - (0+(iK l - 4))=0 by omega];simp
  rw[e1]at N;refine⟨_,_,r7 (by walk_nrm;unfold execOp;simp only[resolve,invoke,builtin,Sem.run_bind,Sem.run_pure,Result.andThen_ok,cG,bC,cM];walk_nrm;rw[N];rfl),?_,?_⟩
  ·exact setRow_heap _ _ _ _ _ _ M
  ·exact⟨iI,iI,iI,Ad,λj m Z=>setRow_other _ _ _ _ Z⟩
 rintro y u2 L2 c W2 ab ah R;rw[ab _ W]at R;have C2:=n.kx c W2 (λS=>by have:=C.W.lt C.inb;omega) λg' hg S=>by
  have:=Cm C.own hg;omega
 walk_nrm;refine Ro8 ?_;refine Wqw ?_;refine Wad ?_;refine Ro8 ?_;refine Dt (⟨kr iI,iI,iI,R,?_,C2⟩);exact⟨c.os.trans h.os,c.tape.trans h.tape,c.output.trans h.output,aE h.size c.size,λj m _=>(c.block j (aA m h.size) λS=>Aa).trans (h.block j m λd=>d)⟩
end
structure Wz(p):Prop where
 pos:0<Jq p
 len:lenOf p<=1000
def nn(p bs:gT):Nat:=if(iK bs:Int)<Jq p then iK bs else(Jq p).toNat
def Fa(p bs:gT):gT:=p++bs.take (nn p bs)
def Kj:Wz []:=⟨Ae,Ae⟩
def Ml(p):Jq p=if iK p<4 then 4 - (iK p:Int) else 4+lenOf p - iK p:=by
 unfold Jq lenOf
 grind
def Wz.lt{p}(h:Wz p):iK p<1004:=by
 have C:=h.pos;have J:=h.len;rw[Ml]at C;split at C<;>omega
def Adn{p}(h:Wz p)(D:W≠[]):0<nn p W:=by
 have:=eP.2 D;have:=h.pos;unfold nn;split<;>omega
def Ai5(p W):nn p W<=iK W:=by
 unfold nn;split<;>omega
def Ak9{p bs:gT}(h:Wz p):(if(iK bs:Int)<Jq p then(iK bs:Int) else Jq p)=(nn p bs:Int):=by
 have:=h.pos;unfold nn;split<;>omega
def UZ{p bs}(h:Wz p):(nn p bs:Int)<=Jq p:=by
 have:=h.pos;unfold nn;split<;>omega
def V8{p bs}:(Fa p bs).length=iK p+nn p bs:=by
 have:=Ai5 p bs;simp[Fa];omega
def Z9{p bs}(h:Wz p):(Fa p bs).length<=1004:=by
 have C:=h.len;have J:=UZ (bs:=bs) h;rw[Ml]at J;rw[V8];split at J<;>omega
def RG{p bs}(h:Wz p):0<=Jq (Fa p bs):=by
 have J:=UZ (bs:=bs) h;have T:=V8 (p:=p) (bs:=bs);rw[Ml]at J;rw[Ml];split
 ·omega
 ·rename_i q;by_cases Q:iK p<4
  ·omega
  ·have:lenOf (Fa p bs)=lenOf p:=by
    unfold lenOf;rw[aM q,aM Q]
    congr 1
    unfold Fa
    grind
   omega
def Ur{p}(h:Wz p)(K:lenOf (Fa p bs)<=1000)(L:Jq (Fa p bs)≠0):Wz (Fa p bs):=
 ⟨by have:=RG (bs:=bs) h;omega,K⟩
def Aaj{p}(L:Jq p=0):4<=iK p:=by
 rw[Ml]at L;split at L<;>omega
inductive Je:gT->gT->List (gT)->gT->Bool->Prop
 |done (p:gT):Je p [] [] p sd
 |long {p bs:gT}:bs≠[]->1000<lenOf (Fa p bs)->Je p bs [] [] km
 |body {p bs:gT} {Ea:gR} {q} {t}:bs≠[]->lenOf (Fa p bs)<=1000->Jq (Fa p bs)=0->Je [] (bs.drop (nn p bs)) Ea q t->Je p bs ((Fa p bs).drop 4::Ea) q t
 |more {p bs:gT} {Ea:gR} {q} {t}:bs≠[]->lenOf (Fa p bs)<=1000->Jq (Fa p bs)≠0->Je (Fa p bs) (bs.drop (nn p bs)) Ea q t->Je p bs Ea q t
def Zd:∀N(p W:gT),iK W<=N->Wz p->∃F q t,Je p W F q t
 |N,p,[],_,_=>⟨_,_,_,.done p⟩
 |0,p,_::_,h,_=>Aix
 |N+1,p,c::W,h,Q=>by
  have D:c::W≠[]:=Ad;have e:=Adn Q D;have y:((c::W).drop (nn p (c::W))).length<=N:=by rw[cV];omega
  by_cases K:1000<lenOf (Fa p (c::W))
  ·exact⟨_,_,_,.long D K⟩
  ·by_cases L:Jq (Fa p (c::W))=0
   ·have ⟨F,q,t,C⟩:=Zd N [] _ y Kj;exact⟨_,_,_,.body D Aa L C⟩
   ·have ⟨F,q,t,C⟩:=Zd N _ _ y (Ur Q Aa L);exact⟨_,_,_,.more D Aa L C⟩
def Je.ok{p}{F:gR}{q}(h:Je p W F q t)(Q:Wz p):Wz q:=by
 induction h with
 |done p=>exact Q
 |long _ _=>exact Kj
 |body _ _ _ _ O=>exact O Kj
 |more _ C J _ O=>exact O (Ur Q C J)
def Code.one:sf->sf|.seq x _=>x|c=>c
def Code.two:sf->sf|.seq _ x=>x|c=>c
def Code.core:sf->sf|.block _ x=>x|.loop x=>x|c=>c
def Code.yes:sf->sf|.cond _ x _=>x|c=>c
def Code.opsOf:sf->Array ox|.region _ ops _=>ops|_=>#[]
noncomputable def Iz:sf:=match f64.body with|some c=>c|none=>.skip
noncomputable def Jj:sf:=Code.core (Code.core Iz)
noncomputable def Aj9:sf:=Code.one Jj
noncomputable def If:sf:=Code.core (Code.two Jj)
noncomputable def Agp:sf:=Code.one If
noncomputable def Agq:sf:=Code.one (Code.two If)
noncomputable def Agr:sf:=Code.one (Code.two (Code.two If))
noncomputable def Ags:sf:=Code.one (Code.two (Code.two (Code.two If)))
noncomputable def XC:sf:=Code.two (Code.two (Code.two (Code.two If)))
noncomputable def Agt:sf:=Code.one XC
noncomputable def KR:sf:=Code.yes (Code.two XC)
noncomputable def Agu:sf:=Code.one KR
noncomputable def Agv:sf:=Code.two KR
noncomputable def Yh:sf:=.cond (.tmp 40) (.seq Agu Agv) .skip
noncomputable def Pz:sf:=.seq Aj9 (.block 1 (.seq Agp (.seq Agq (.seq Agr (.seq Ags (.seq Agt Yh))))))
def Aka:Iz=.block 0 (.loop Pz):=iI
noncomputable def YJ:Array ox:=Code.opsOf Agu
noncomputable def Dl(c b ch n:uo)(u:hQ):Act:=
 {tmps:=#[c,b,ch,qp,qp,qp,n,u 7,u 8,u 9,u 10,u 11,u 12,u 13,u 14,u 15,u 16,u 17,u 18,u 19,u 20,u 21,u 22,u 23,u 24,u 25,u 26,u 27,u 28,u 29,u 30,u 31,u 32,u 33,u 34,u 35,u 36,u 37,u 38,u 39,u 40,u 41,u 42,u 43,u 44,u 45,u 46,u 47,u 48,u 49,u 50,u 51],defers:=[] }
def J8{c b j n}(a)(h:a=Dl c b j n λi=>a.tmps.getD i qp):∃u,a=Dl c b j n u:=⟨_,h⟩
def QG(x y w):(Builtin.min_ #[3,3] 3 #[iE x,iE y]).events N w #[]=#[]:=by
 simp[Builtin.min_,Builtin.min2,List.foldlM]
section
variable {J:gW} {c:gV} {f:Nat} {tl:Bool}
def VW.set(W:VW J c w)(b j x):VW J c (w.setCell (iD b j) x):=by
 refine⟨Ae4 W.rows,W.2,λr Y=>?_,W.4⟩;have ⟨o,C,a⟩:=W.3 r Y;by_cases D:r=b
 ·subst D;have K:=ltOf C;rw[aO K]at C;refine⟨o,?_,a⟩;unfold World.setCell;rw[aO (by simpa using K)];simp only[Array.getElem_modify_self];rw[aB C];cases o<;>first|rfl|cases a
 ·exact⟨o,by rwa[Eg _ _ D],a⟩
def M7.part(C:M7 J c u d U a tl l){pv'}{l':gT}(f:u.ownsRow 0 5 1 pv' (iK l') (A4 l'))(b:∀g,pv'.ownBlock=lj g->¬c g)(T:IntsIn u pv'):M7 J c (u.setCell (iD d U) pv') d U pv' tl l':=
 ⟨C.W.set _ _ _,C.inb,C.j0,C.j1,duy _ _ _ C.c0,(yon _ _ _ _ Ad).trans C.c1,(xju _ _ _ _).trans C.f0,(xju _ _ _ _).trans C.f1,Dh f λg G=>Eg _ _ λe=>b g G (e▸C.inb),b,λg O G h=>T g O G ((Eg (iD d U) pv' (fun(e:g=d)=>b g G (e▸C.inb))).symm.trans h)⟩
def M7.flag(C:M7 J c u d U a tl l)(t):M7 J c (u.setCell ⟨d,U+1,jh⟩ (gd t)) d U a t l:=
 ⟨C.W.set _ _ _,C.inb,C.j0,C.j1,(yon _ _ _ _ Ad).trans C.c0,duy _ _ _ C.c1,(xju _ _ _ _).trans C.f0,(xju _ _ _ _).trans C.f1,Dh C.own λg G=>Eg _ _ λe=>C.ap g G (e▸C.inb),C.ap,λg O G h=>C.ints g O G ((Eg ⟨d,U+1,jh⟩ (gd t) (fun(e:g=d)=>C.ap g G (e▸C.inb))).symm.trans h)⟩
structure Src(c:gV)(u f bv)(bs:gT):Prop where
 nb:¬c f
 at':∃ba cap,bv=qh ba (iK bs) cap/\iK bs<=cap/\(bs≠[]->∃off,ba=lj (iD f off)/\Bytes u f off bs)
def Src.kx{X}(h:Src c u f T W)(K:Ax u O X)(t:¬X f):Src c O f T W:=by
 have ⟨L,I,C,J,a⟩:=h.at';exact⟨h.nb,L,I,C,J,λD=>let⟨off,q,z⟩:=a D;⟨off,q,Tt z K t⟩⟩
def Ai2(L:hU)(y f c j n x):Hp N k J F 64 Aj9 (λe l O=>e=(if 0<y then .normal else .exit 0)/\(∃a,l=Dl c (qh L y f) j n a)/\O=u) (Dl c (qh L y f) j n x) u:=by
 simp only[Aj9,Jj,Iz,Code.core,Code.one,fqp,Dl];refine Wqw ?_;refine Trb ?_;refine Ro8 ?_;by_cases D:0<y
 ·have S:(0:Int)<(y:Int):=Aa;refine Kbd ?_;refine K5o ?_;exact⟨by rw[aL D],J8 _ iI,Aiu⟩
 ·refine A3 (t:=sd) HK ?_;simp only[bR,aR];refine Lc ?_;simp only[A1];exact⟨by rw[aM D],J8 _ iI,Aiu⟩
def Ani(C:M7 J c u d U a tl l)(K:Wz l)(L:hU)(bs:gT)(g j n x):Hp N k J F 64 Agp (λh i O=>h=.normal/\(∃m,i=Dl (pdw (lj (iD d U))) (qh L (iK bs) g) j (iE (nn l bs)) m)/\Ax u O iH/\M7 J c O d U a tl l) (Dl (pdw (lj (iD d U))) (qh L (iK bs) g) j n x) u:=by
 have Y:=K.lt;simp only[Agp,If,Jj,Iz,Code.core,Code.one,Code.two,fqp,Dl];refine Tfz ?_;refine A2 (MF C Aa) iI Ac iI Af ?_;rintro y Z⟨rfl,f,b⟩;walk_nrm;refine Wad ?_;refine Gl (S:=env Lv) (x:=iE (nn l bs)) iI Ac (B7 Ab) (A6 _ _) (λe=>by go_simp;first|done|(rw[←(Ak9 (bs:=bs) K)];split<;>omega)) (λe=>by have r:=QG (Jq l) (iK bs) e;go_simp) ?_;walk_nrm;refine Keu ?_;exact⟨Aiu,J8 _ iI,f,b⟩
def Mo(l):∀u∈A4 l,u.oneCell'=km:=λu r=>by
 obtain⟨x,_,rfl⟩:=aZ.1 r
 rfl
def Kh(l):∀x∈A4 l,∀m,Az m x=x:=λx Z m=>by
 obtain⟨y,_,rfl⟩:=aZ.1 Z;simp
def X9(w t)(l r:gT)(X off I m)(e:w.ownsRow 0 5 1 t (iK l) (A4 l))(D:Bytes w X off r)(n:m=iK r)(h:0<m)(hl:iK l+m<=5000):∃g c a,(Builtin.append_ #[37,37] 37 #[t,qh (lj (iD X off)) m I]).run y7 w=.ok (qh (lj (iC g)) (l++r).length c) a/\a.ownsRow 0 5 1 (qh (lj (iC g)) (l++r).length c) (l++r).length (A4 (l++r))/\Ax w a (λp=>t.ownBlock=lj p)/\(t.ownBlock=lj g∨g=iL w.1)/\(IntsIn w t->IntsIn a (qh (lj (iC g)) (l++r).length c)):=by
 subst n;obtain⟨b,d,v,W,T⟩:=info_parts Tryz.info5;have M:∀j(u:uo),(A4 r)[j]?=lj u->w.cell? (((iD X off):Addr).add j)=lj u:=λj u f=>by
  have P:j<iK r:=by have:=(aF.1 f).1;simpa[A4] using this
  have C:=D j P;simp only[A4,aS,aH P,aI,aT]at f
  rwa[←f,wh]
 have z:(A4 r).length=iK r * b.size:=by rw[W];simp[A4]
 have R:∀k,∀x∈Builtin.zeroCells (Value.int qg 0).cells k,∀m,Az m x=x:=λk x Z m=>by
  have:x=uu qg 0:=by
   simp[Builtin.zeroCells,Value.cells]at Z
   grind
  rw[this];simp
 obtain⟨g,c,a,Y,J,O,q,h5⟩:=run_append_lies (P:=y7) w 37 37 0 5 b _ 1 1 pfr d v W T iI Ae t (iK l) _ e (iD X off) (iK r) I (A4 r) (by simp[A4]) M (Mo r) h Aga Aa (bF _) _ iI;have B:IntsIn w t->IntsIn a (qh (lj (iC g)) (l++r).length c):=λV y cc K L=>by
  obtain rfl:g=y:=by simpa[Value.ownBlock] using K
  rcases e.2 with⟨rfl,a1⟩|⟨i,N,H,rfl,a6,G,a7,a8,Q,ab⟩
  ·have s:=run_append_nil (P:=y7) w 37 37 5 b _ pfr d v (iD X off) (iK r) I (A4 r) z M h Aa (by rw[T];omega);rw[Y]at s;injection s with F U;injection F with F _ _;injection F with F;injection F with F _ _;subst U F;rw[show(w.drew.alloc (oh ((A4 r).toArray++Builtin.zeroCells (Value.int qg 0).cells (grownCap w (iK r) 0 5 - iK r)) 5)).1[iL w.1]?=lj (oh ((A4 r).toArray++Builtin.zeroCells (Value.int qg 0).cells (grownCap w (iK r) 0 5 - iK r)) 5) from iw w.drew _]at L;injection L with L;injection L with L _ _;subst L;intro x Z m;rw[cC]at Z;rcases Z with Z|Z
   ·exact Kh r x Aao m
   ·exact R _ x Z m
  ·by_cases S:iK l+iK r<=N
   ·have s:=run_append_room (P:=y7) w 37 37 5 b pfr d i (iK l) N H G (iD X off) (iK r) I (A4 r) z M (Mo r) S (by rw[W,Q];simp[A4];omega);rw[Y]at s;injection s with F U;injection F with F _ _;injection F with F;injection F with F _ _;subst U F;rw[setRow_heap w g H _ 5 _ G]at L;injection L with L;injection L with L _ _;subst L;have A:=V g H iI G;intro x Z m;simp only[List.mem_toArray,bP]at Z;rcases Z with(Z|Z)|Z
    ·exact A x (by simpa using List.mem_of_mem_take Z) m
    ·exact Kh r x Z m
    ·exact A x (by simpa using List.mem_of_mem_drop Z) m
   ·have s:=run_append_grow (P:=y7) w 37 37 5 b _ pfr d v (iC i) (iK l) N (A4 l) (by rw[W];simp[A4]) (e.cells (g:=i) iI) (iD X off) (iK r) I (A4 r) z M Aa Aa (growslice_fits Aa (by rw[T];omega));rw[Y]at s;injection s with F U;injection F with F _ _;injection F with F;injection F with F _ _;subst U F;rw[show(w.drew.alloc (oh ((A4 l).toArray++(A4 r).toArray++Builtin.zeroCells (Value.int qg 0).cells (grownCap w (iK l+iK r) N 5 - (iK l+iK r))) 5)).1[iL w.1]?=lj (oh ((A4 l).toArray++(A4 r).toArray++Builtin.zeroCells (Value.int qg 0).cells (grownCap w (iK l+iK r) N 5 - (iK l+iK r))) 5) from iw w.drew _]at L;injection L with L;injection L with L _ _;subst L;intro x Z m;rw[cC,cC]at Z;rcases Z with(Z|Z)|Z
    ·exact Kh l x Aao m
    ·exact Kh r x Aao m
    ·exact R _ x Z m
 rw[←Iv,←aK]at J;rw[←aK]at Y;exact⟨g,c,a,Y,J,⟨O.os,O.tape,O.output,O.size,λk E Z=>O.block k E (λo=>Z o.symm)⟩,q,B⟩
def Anj(C:M7 J c u d U a tl l)(af:∀E,a.ownBlock=lj E->E≠f)(a8:¬c f)(off z t n r)(hb:Bytes u f off r)(hm:iK r=n)(L:0<n)(hl:iK l+n<=5000)(ah:n<=t)(D x):Hp y7 k J F 64 Agq (λj a' O=>j=.normal/\(∃A,a'=Dl (pdw (lj (iD d U))) (qh (lj (iD f off)) z t) D (iE n) A)/\Ax u O (λi=>i=d∨a.ownBlock=lj i) /\
   ∃E e,M7 J c O d U (qh (lj (iC E)) (l++r).length e) tl (l++r)/\(a.ownBlock=lj E∨iL u.1<=E)) (Dl (pdw (lj (iD d U))) (qh (lj (iD f off)) z t) D (iE n) x) u:=by
 have T:(0:Int)<=(n:Int):=Aa;obtain⟨b,S,rfl⟩:=C.slice;generalize a7:iK l=p at *;have o:∀(w:gk)(g:Nat),True->True:=λ_ _ N=>N;have q:∀(I:Act)(w:gk)(g:Nat),((uz7=uz7)/\(∃A,I=Dl (pdw (lj (iD d U))) (qh (lj (iD f off)) z t) D (iE n) A)/\Ax u w (λi=>i=d∨(Value.slice b p S).ownBlock=lj i)/\∃E e,M7 J c w d U (qh (lj (iC E)) (l++r).length e) tl (l++r)/\((Value.slice b p S).ownBlock=lj E∨iL u.1<=E)) ->
   ((uz7=uz7)/\(∃A,I=Dl (pdw (lj (iD d U))) (qh (lj (iD f off)) z t) D (iE n) A)/\Ax u (w.at g) (λi=>i=d∨(Value.slice b p S).ownBlock=lj i)/\∃E e,M7 J c (w.at g) d U (qh (lj (iC E)) (l++r).length e) tl (l++r)/\((Value.slice b p S).ownBlock=lj E∨iL u.1<=E)):=
  λI w g⟨q1,q2,q3,E,e,q5,q6⟩=>⟨q1,q2,q3.at g,E,e,q5.at g,q6⟩
 simp only[Agq,If,Jj,Iz,Code.core,Code.one,Code.two,fqp,Dl];refine Em (I:=λ_=>True) Ac λB=>?_;apply A9.tp 0 o q trivial;walk_nrm;apply A9.tp 1 o q trivial;walk_nrm;apply A9.tp 2 o q trivial;walk_nrm;apply A9.tp 3 o q trivial;walk_nrm;apply A9.tp 5 o q trivial;walk_nrm;apply A9.tp 6 o q trivial;walk_nrm;apply A9.take (i:=7) (x:=qh (lj (iD f off)) n t) o q iI Ab Ab Ab (JM (S:=env Lv) Ac (B7 (fn:=0) Ab) (A6 _ _) Amt (λw=>by have ai:=λX=>P3 w X (lj (iD f off)) z t n T Aa;go_simp;first|done|rfl)) trivial;walk_nrm;have M:=C.at B;have c1:(u.at B).cell? (iD d U)=lj (qh b p S):=M.c0;apply Qw (i:=4) (S:=env Lv) (fn:=0) o q Ab iI Ac (B7 Ab) (A6 _ _) (x:=qh b p S) (v':=u.at B) (λg=>r7 (by have P:=(show ur ((u.at B).at g) _=lj (Value.slice b p S) from c1);walk_nrm;go_simp)) (λg=>by have P:=(show ur ((u.at B).at g) _=lj (Value.slice b p S) from c1);walk_nrm;intro m K;simp[go_sem,P]at K;subst K;exact Cl C.j0) trivial;walk_nrm;refine WK (i:=8) (S:=env Lv) (fn:=0) M.W Ab iI Ac (B7 Ab) (A6 _ _) (X:=λi=>(Value.slice b p S).ownBlock=lj i) (R:=λG Q=>∃E e,G=qh (lj (iC E)) (l++r).length e/\Q.ownsRow 0 5 1 G (l++r).length (A4 (l++r))/\((Value.slice b p S).ownBlock=lj E∨E=iL u.1)/\IntsIn Q G) (λi R N=>?_) (λaa y=>?_) ?_
 ·obtain⟨aj,s,W⟩:=C.W.3 i R;obtain⟨_,⟨Y,_⟩|⟨E,ak,al,Y,_,T,_⟩⟩:=C.own
  ·rw[Y]at N;cases N
  ·rw[Y]at N;obtain rfl:E=i:=by simpa[Value.ownBlock] using N
   rw[T]at s;obtain rfl:=aB s;cases W
 ·obtain⟨E,e,w',ae,k1,k2,k3,k4⟩:=X9 aa _ l r f off t n (by rw[a7];exact Dh (a7▸M.own) λE H=>y.same (C.ap E H)) (λi R=>(Cg (y.same a8)).trans (hb i R)) hm.symm L Aa;refine⟨_,w',r7 ?_,⟨E,e,iI,k1,k3.imp id λN=>by rw[N,y.size];rfl,k4 λh cc m N=>C.ints h cc m ((y.same (C.ap h m)).symm.trans N)⟩,k2⟩;exact Ewe
 rintro G Z Q K1 W1 V an⟨E,e,rfl,s,H,ab⟩;refine⟨trivial,?_⟩;have v:¬c E:=by
  rcases H with N|N
  ·exact C.ap E N
  ·exact λhB=>by have:=C.W.lt hB;omega
 have C1:M7 J c Z d U (qh b p S) tl l∨True:=kr trivial;have ad:Z.ownsRow 0 5 1 (qh (lj (iC E)) (l++r).length e) (l++r).length (A4 (l++r)):=Dh s λh j=>by
  obtain rfl:E=h:=by simpa[Value.ownBlock] using j
  exact(V E v).symm
 have X:=K1.block d (C.W.lt C.inb) λN=>C.ap d N C.inb;have D1:M7 J c Z d U (qh b p S) tl l->True:=λ_=>trivial;have a1:Z.cell? (iD d U)=lj (qh b p S):=(Cg X).trans C.c0;have a6:Z.frozen? (iD d U)=sd:=(Nf X).trans C.f0;have C2:M7 J c (Z.setCell (iD d U) (qh (lj (iC E)) (l++r).length e)) d U (qh (lj (iC E)) (l++r).length e) tl (l++r):=
  ⟨W1.set _ _ _,C.inb,C.j0,C.j1,duy _ _ _ a1,(yon _ _ _ _ Ad).trans ((Cg X).trans C.c1),(xju _ _ _ _).trans a6,(xju _ _ _ _).trans ((Nf X).trans C.f1),Dh ad λh j=>by
   obtain rfl:E=h:=by simpa[Value.ownBlock] using j
   exact Eg _ _ λm=>v (m▸C.inb),λh j=>by
   obtain rfl:E=h:=by simpa[Value.ownBlock] using j
   exact v,λh cc j N=>by
   obtain rfl:E=h:=by simpa[Value.ownBlock] using j
   exact ab E cc iI ((V E v).trans ((Eg (iD d U) (qh (lj (iC E)) (l++r).length e) (fun(m:E=d)=>v (m▸C.inb))).symm.trans N))⟩
 generalize ao:(l++r).length=nl at *;walk_nrm;apply A9.tp 9 o q trivial;walk_nrm;apply A9.tp 10 o q trivial;walk_nrm;refine Qw (i:=11) (S:=env Lv) (fn:=0) o q Ab iI Ac (B7 Ab) (A6 _ _) (x:=qp) (v':=Z.setCell (iD d U) (qh (lj (iC E)) nl e)) (λg=>kr ⟨by have P:=(show ur (Z.at g) _=_ from a1);have hf:=(show tv (Z.at g) _=sd from a6);walk_nrm;go_simp;first|done|rfl,rfl⟩) (λg=>by walk_nrm;intro m K;simp[go_sem,((show ur (Z.at g) _=_ from a1)),((show tv (Z.at g) _=sd from a6)),gog _ _ _ _ (Value.slice _ _ _) lc2 iI,jd]at K;subst K;exact Cl C.j0) trivial ?_;walk_nrm;refine A9.all Ab ⟨iI,J8 _ iI,(K1.ofAt.mono λ_ N=>kr N).trans ((Et Z d U _).mono λ_ N=>r7 N),E,e,C2,H.imp id λN=>Aa⟩ _
def Ank(a off y f m)(L:m<=y)(g:y<=f)(c j x):Hp N k J F 64 Agr (λb l O=>b=.normal/\(∃d,l=Dl c (qh (Md a off m f) (y - m) (f - m)) j (iE m) d)/\O=u) (Dl c (qh (lj (iD a off)) y f) j (iE m) x) u:=by
 have h:(y:Int)<=(f:Int):=Aa;simp only[Agr,If,Jj,Iz,Code.core,Code.one,Code.two,fqp,Dl];refine Gd2 ?_;apply Gl (S:=env Lv) (x:=qh (Md a off m f) (y - m) (f - m)) iI Ac (B7 Ab) (A6 _ _) Ams (λe=>by have r:=λX=>Xi e X (lj (iD a off)) y f m Aa Aa;go_simp;first|done|rfl);walk_nrm;refine Keu ?_;exact⟨Aiu,J8 _ iI,Aiu⟩
def Anl(C:M7 J c u d U a tl l)(g j n x):Hp N k J F 64 Ags (λe h O=>if 1000<lenOf l then e=.ret/\h.defers = []/\Ax u O (λo=>o=d)/\M7 J c O d U (qh jh 0 0) km []
   else e=.normal/\(∃p,h=Dl (pdw (lj (iD d U))) g j n p)/\Ax u O iH/\M7 J c O d U a tl l) (Dl (pdw (lj (iD d U))) g j n x) u:=by
 simp only[Ags,If,Jj,Iz,Code.core,Code.one,Code.two,fqp,Dl];refine Wqw ?_;refine V2g ?_;apply A2 (UP C) iI Ac iI Af;rintro y Z⟨rfl,f,b⟩;walk_nrm;refine Keu ?_;by_cases z:1000<lenOf l
 ·have S:(1000:Int)<(lenOf l:Int):=Aa;simp only[aL z];refine Kbd ?_;refine Wqw ?_;refine Ldr ?_;obtain⟨s,t,rfl⟩:=C.slice;have M:=b.part (pv':=qh jh 0 0) (l':=[]) ⟨by simp[A4],r7 ⟨iI,iI⟩⟩ (λq e=>HL) (λq v e=>HL);refine Cy (S:=env Lv) iI Ac (B7 Ab) (A6 _ _) (x:=qp) (v':=(Z.setCell (iD d U) (qh jh 0 0))) (λm=>kr ⟨by have H:=(show ur (World.at Z m) _=_ from b.c0);have a1:=(show tv (World.at Z m) _=sd from b.f0);walk_nrm;go_simp;first|done|rfl,rfl⟩) (λm=>by have H:=(show ur (World.at Z m) _=_ from b.c0);have a1:=(show tv (World.at Z m) _=sd from b.f0);walk_nrm;intro av Y;simp[go_sem,H,a1,gog _ _ _ _ (Value.slice _ _ _) lc2 iI,gog _ _ _ _ (Value.bool _) lc2 iI,jd]at Y;subst Y;exact Cl C.j0) ?_;walk_nrm;have i:=Et Z d U (qh jh 0 0);generalize Z.setCell (iD d U) (qh jh 0 0)=B at M i⊢;refine Wad ?_;have P:=M.flag km;have W:=Et B d (U+1) (gd km);refine Cy (S:=env Lv) iI Ac (B7 Ab) (A6 _ _) (x:=qp) (v':=(B.setCell ⟨d,U+1,jh⟩ (gd km))) (λm=>kr ⟨by have H:=(show ur (World.at B m) _=_ from M.c1);have a1:=(show tv (World.at B m) _=sd from M.f1);walk_nrm;go_simp;first|done|rfl,rfl⟩) (λm=>by have H:=(show ur (World.at B m) _=_ from M.c1);have a1:=(show tv (World.at B m) _=sd from M.f1);walk_nrm;intro av Y;simp[go_sem,H,a1,gog _ _ _ _ (Value.slice _ _ _) lc2 iI,gog _ _ _ _ (Value.bool _) lc2 iI,jd]at Y;subst Y;exact Cl C.j1) ?_;walk_nrm;generalize B.setCell ⟨d,U+1,jh⟩ (gd km)=E at P W⊢;refine Ro8 ?_;refine Dt ?_;exact⟨iI,iI,((f.mono λ_ r=>r.elim).trans i).trans W,P⟩
 ·simp only[aM z];refine A3 (t:=sd) HK ?_;simp only[bR,aR];refine K5o ?_;exact⟨Aiu,J8 _ iI,f,b⟩
def Anm(C:M7 J c u d U a tl l)(K:iK l<=5000)(b j n x):Hp N k J F 64 Agt (λf g O=>f=.normal/\(∃e,g=Dl (pdw (lj (iD d U))) b j n e/\e 40=gd (decide (Jq l=0)))/\Ax u O iH/\M7 J c O d U a tl l) (Dl (pdw (lj (iD d U))) b j n x) u:=by
 simp only[Agt,XC,If,Jj,Iz,Code.core,Code.one,Code.two,fqp,Dl];refine Tfz ?_;apply A2 (MF C K) iI Ac iI Af;rintro y Z⟨rfl,H,h⟩;walk_nrm;apply Cd (gd _);walk_nrm;refine Ro8 ?_;exact⟨Aiu,⟨λi=>([qp,qp,qp,qp,qp,qp,qp,x 7,x 8,x 9,x 10,x 11,x 12,x 13,x 14,x 15,x 16,x 17,x 18,x 19,x 20,x 21,x 22,x 23,x 24,x 25,x 26,x 27,x 28,x 29,x 30,x 31,x 32,x 33,x 34,x 35,x 36,x 37,pdw _,iE (Jq l),gd (decide (Jq l=0)),x 41,x 42,x 43,x 44,x 45,x 46,x 47,x 48,x 49,x 50,x 51]:gZ).getD i qp,iI,iI⟩,H,h⟩
def Ann{g}(C:M7 J c u d U (qh (lj (iC g)) n b) tl l)(E:n<=b)(i j m x):Hp N k J F 64 Agv (λa p O=>a=.normal/\(∃q,p=Dl (pdw (lj (iD d U))) i j m q)/\Ax u O (λt=>t=d)/\M7 J c O d U (qh (lj (iC g)) 0 b) tl []) (Dl (pdw (lj (iD d U))) i j m x) u:=by
 have v:u.ownsRow 0 5 1 (qh (lj (iC g)) 0 b) ([]:gT).length (A4 []):=by
  obtain⟨G,⟨h,_⟩|⟨R,I,w,h,y,T,K,z,A,s⟩⟩:=C.own
  ·cases h
  ·cases h;exact⟨by simp[A4],kr ⟨g,b,w,iI,y,T,Ad,z,A,by simp[A4]⟩⟩
 simp only[Agv,KR,XC,Code.yes,If,Jj,Iz,Code.core,Code.one,Code.two,fqp,Dl];refine Dur ?_;apply Bp C.c0 C.j0;walk_nrm;apply Gl (S:=env Lv) (x:=qh (lj (iC g)) 0 b) iI Ac (B7 Ab) (A6 _ _) Ams (λe=>by have r:=λX=>P3 e X (lj (iC g)) n b 0 Aa Aa;go_simp;first|done|rfl);walk_nrm;refine Wad ?_;have M:=C.part (l':=[]) v (λR a=>C.ap R a) (λR D a=>C.ints R D a);have o:=Et u d U (qh (lj (iC g)) 0 b);refine Cy (S:=env Lv) iI Ac (B7 Ab) (A6 _ _) (x:=qp) (v':=(u.setCell (iD d U) (qh (lj (iC g)) 0 b))) (λf=>kr ⟨by have H:=(show ur (World.at u f) _=_ from C.c0);have a1:=(show tv (World.at u f) _=sd from C.f0);walk_nrm;go_simp;first|done|rfl,rfl⟩) (λf=>by have H:=(show ur (World.at u f) _=_ from C.c0);have a1:=(show tv (World.at u f) _=sd from C.f0);walk_nrm;intro av Y;simp[go_sem,H,a1,gog _ _ _ _ (Value.slice _ _ _) lc2 iI,gog _ _ _ _ (Value.bool _) lc2 iI,jd]at Y;subst Y;exact Cl C.j0) ?_;walk_nrm;generalize u.setCell (iD d U) (qh (lj (iC g)) 0 b)=B at M o⊢;refine Ro8 ?_;exact⟨Aiu,J8 _ iI,o,M⟩
end
def LV{x}(q:iK H=4)(r:uns H=n):lenOf (H++x)=n:=by
 unfold lenOf
 grind
def EE{x}(q:iK H=4)(r:uns H=n):Jq (H++x)=(n:Int) - iK x:=by
 unfold Jq
 grind
def Ze{H body a:gT}{B:gR}{q}(b:iK H=4)(r:uns H=iK body)(F:0<iK body)(C:iK body<=1000)(j:Je [] a B q t):Je [] (H++(body++a)) (body::B) q t:=by
 have z:Jq []=4:=Ae;have l:nn [] (H++(body++a))=4:=by
  unfold nn
  grind
 have N:Fa [] (H++(body++a))=H:=by
  unfold Fa
  grind
 have x:(H++(body++a)).drop (nn [] (H++(body++a)))=body++a:=by
  grind
 have c:lenOf H=iK body:=by have:=LV (x:=[]) b r;simpa using this
 have d:Jq H=iK body:=by have:=EE (x:=[]) b r;simpa using this
 have J:nn H (body++a)=iK body:=by
  unfold nn
  grind
 have m:Fa H (body++a)=H++body:=by
  unfold Fa;rw[J,cY (aC _),List.take_length]
 have Z:(body++a).drop (nn H (body++a))=a:=by rw[J];simp
 refine .more (by intro e;simp at e;rw[e.1]at b;simp at b) (by rwa[N,c]) (by rw[N,d];omega) ?_;rw[N,x];have D:Je H (body++a) ((Fa H (body++a)).drop 4::B) q t:=.body (by intro e;simp at e;rw[e.1]at F;simp at F) (by rwa[m,LV b r]) (by rw[m,EE b r];omega) (by rwa[Z])
 grind
def QA:Je [] [0,0,0,4,0,0,0,1] [[0,0,0,1]] [] sd:=Ze (H:=[0,0,0,4]) (body:=[0,0,0,1]) iI Ae Ae Ae (.done [])
section
variable {J:gW} {f:Nat} {tl:Bool} {b:qq} {j:List Item}
structure Wk(J Bs e)(pg:hY)(d U f)(S:gV)(u a tl l):Prop where
 C:M7 J Bs u d U a tl l
 K:Ax e u (λi=>i=d∨pg=lj i)
 P:∀g,a.ownBlock=lj g->(pg=lj g∨iL e.1<=g)/\g≠f/\¬S g
 hS:∀j,S j->j<iL u.1
 hB:¬Bs f
def Wk.step(j:Wk J Bs e pg d U f S u a tl l){c g h}(K:Ax u O (λk=>k=d∨a.ownBlock=lj k))(C:M7 J Bs O d U c g h)(G:∀i,c.ownBlock=lj i->a.ownBlock=lj i∨(iL u.1<=i/\i≠f)):Wk J Bs e pg d U f S O c g h:=by
 refine⟨C,⟨K.os.trans j.K.os,K.tape.trans j.K.tape,K.output.trans j.K.output,aE j.K.size K.size,λk V Z=>?_⟩,λi m=>?_,λn b=>aA (j.4 n b) K.size,j.5⟩
 ·refine(K.block k (aA V j.K.size) λq=>?_).trans (j.K.block k V Z);rcases q with q|q
  ·exact Z (r7 q)
  ·rcases(j.P k q).1 with r|r
   ·exact Z (kr r)
   ·omega
 ·rcases G i m with q|⟨F,z⟩
  ·exact j.P i q
  ·exact⟨kr (aE j.K.size F),z,λs=>by have:=j.4 i s;omega⟩
def Wk.kx(h:Wk J Bs e pg d U f S u a tl l)(K:Ax u O iH)(C:M7 J Bs O d U a tl l):=
 h.step (K.mono λ_ h=>h.elim) C λg b=>r7 b
abbrev Jk(d U:Nat):uo:=pdw (lj (iD d U))
def Afj{I}(D:Bytes u f off bs)(M:iK bs<=I)(m)(L:m<=iK bs)(F:0<m)(k:¬Bs f):Src Bs u f (qh (Md f off m I) (iK bs - m) (I - m)) (bs.drop m):=by
 refine⟨k,_,_,by rw[cV],by rw[cV];omega,λa=>⟨off+m,?_,λi V=>?_⟩⟩
 ·unfold Md
  grind
 ·rw[cV]at V;have:=D (m+i) Aa
  grind
def SL(h:Wk J Bs e pg d U f S u a tl l)(K:Wz l)(y:hU)(I)(s:Src Bs u f (qh y (iK bs) I) bs)(L:bs≠[])(g N A)(D:b.fn=64)(E:b.kind=.normal)(a6:1000<lenOf (Fa l bs)->∀H O o,H.defers = []->Wk J Bs e pg d U f S O (qh jh 0 0) km []->EV y7 k J F (G { b.at H o with mode:=.returning } z) O)(a7:lenOf (Fa l bs)<=1000->∀P O i m T,Wk J Bs e pg d U f S O (qh (lj (iC i)) (Fa l bs).length m) tl (Fa l bs)->Src Bs O f T (bs.drop (nn l bs))->P 40=gd (decide (Jq (Fa l bs)=0)) ->
   EV y7 k J F (G (b.at (Dl (Jk d U) T g (iE (nn l bs)) P) (.code Yh::.inBlock 1::j)) z) O):EV y7 k J F (G (b.at (Dl (Jk d U) (qh y (iK bs) I) g N A) (.code Pz::j)) z) u:=by
 obtain⟨_,_,e0,C,aa⟩:=s.at';cases e0;obtain⟨off,rfl,Q⟩:=aa L;have R:0<iK bs:=eP.2 L;have W:=Adn K L;have n:=Ai5 l bs;have al:=V8 (p:=l) (bs:=bs);have an:=Z9 (bs:=bs) K;have ao:=KL Q R;refine EV.seqC (Ai2 (lj (iD f off)) (iK bs) I (Jk d U) g N A b (.code (.block 1 (.seq Agp (.seq Agq (.seq Agr (.seq Ags (.seq Agt Yh))))))::j) z D E ?_);rintro c aq u1⟨rfl,⟨x1,rfl⟩,rfl⟩;rw[aL R];refine EV.blockC (EV.seqC ?_);apply Ani h.C K (lj (iD f off)) bs I g N x1 b _ z D E;rintro c a2 B⟨rfl,⟨a8,rfl⟩,p,M⟩;have r:=h.kx p M;have X:=Tt Q p λh=>h;apply EV.seqC;have ab:Bytes B f off (bs.take (nn l bs)):=λad V=>by
  rw[List.getElem_take];exact X ad (by rw[dZ]at V;omega)
 apply Anj M (λi c=>(r.P i c).2.1) h.5 off (iK bs) I (nn l bs) (bs.take (nn l bs)) ab Ai W Aa Aa g a8 b _ z D E;rintro c a3 Y⟨rfl,⟨x3,rfl⟩,Z,i,m,ae,af⟩;have v:Wk J Bs e pg d U f S Y (qh (lj (iC i)) (Fa l bs).length m) tl (Fa l bs):=r.step Z ae λg' c=>by
  obtain rfl:i=g':=by simpa[Value.ownBlock] using c
  rcases af with q|q
  ·exact r7 q
  ·exact kr ⟨q,by have:=p.size;omega⟩
 have ah:Bytes Y f off bs:=Tt X Z λq=>by
  rcases q with q|q
  ·exact h.5 (q▸M.inb)
  ·exact(r.P _ q).2.1 iI
 apply EV.seqC;apply Ank f off (iK bs) I (nn l bs) n C (Jk d U) g x3 b _ z D E;rintro c a4 u4⟨rfl,⟨x4,rfl⟩,rfl⟩;refine EV.seqC (Anl v.C _ g _ x4 b _ z D E ?_);intro c ai u5 q;by_cases w:1000<lenOf (Fa l bs)
 ·rw[aL w]at q;obtain⟨rfl,hd,t,x⟩:=q;exact λo=>a6 w ai u5 o hd (v.step (t.mono λ_ h=>r7 h) x λi c=>by cases c)
 ·rw[aM w]at q;obtain⟨rfl,⟨x5,rfl⟩,t,x⟩:=q;apply EV.seqC;apply Anm x Aa _ g _ x5 b _ z D E;rintro c ar u6⟨rfl,⟨x6,rfl,aj⟩,a1,ak⟩;exact a7 Aa x6 u6 i m _ ((v.kx t x).kx a1 ak) (((Afj (Bs:=Bs) ah C (nn l bs) n W h.5).kx t λh=>h).kx a1 λh=>h) aj
noncomputable def Y0(b:qq)(j:List Item)(z:List qq)(d U:Nat)(bv ch m:uo)(x:hQ):vr:=
 G (b.at (Dl (Jk d U) bv ch m x) (.inRegion YJ [3]::.code Agv::.inBlock 1::.inLoop Pz::.inBlock 0::j)) z
def Aoz(C:M7 J Bs u d U a tl l)(q:4<=iK l)(K:iK l<=5000)(T c m x)(f:x 40=gd km)(n:b.fn=64)(E:b.kind=.normal)(g:∀e O,O.1[iL u.1]?=lj (oh (A4 (l.drop 4)).toArray 5)->Ax u O iH->M7 J Bs O d U a tl l->e 41=c->e 43=qh (lj (iC u.1.size)) (iK l - 4) (iK l - 4)->∀h,F (Y0 b j z d U T c m e) (O.at h)):EV N k J F (G (b.at (Dl (Jk d U) T c m x) (.code Yh::.inBlock 1::.inLoop Pz::.inBlock 0::j)) z) u:=by
 refine EV.condC f ?_;refine EV.seqC (EV.regionC ?_);simp only[YJ,Agu,KR,XC,If,Jj,Iz,Code.core,Code.one,Code.two,Code.yes,Code.opsOf,fqp,Dl];apply EV.opPure (fn:=64) E iI Ac (B7 Ab) (A6 _ _) (λw=>Ac) (λw=>Ac);walk_nrm;apply EV.opPure (fn:=64) E iI Ac (B7 Ab) (A6 _ _) (λw=>Ac) (λw=>Ac);walk_nrm;apply EV.opCall E (Anc C q K) iI Ac iI Af (by simp[Eh]);rintro y Z⟨rfl,Y,H,P⟩;walk_nrm;exact EV.stop (g (λi=>([qp,qp,qp,qp,qp,qp,qp,x 7,x 8,x 9,x 10,x 11,x 12,x 13,x 14,x 15,x 16,x 17,x 18,x 19,x 20,x 21,x 22,x 23,x 24,x 25,x 26,x 27,x 28,x 29,x 30,x 31,x 32,x 33,x 34,x 35,x 36,x 37,x 38,x 39,x 40,c,Jk d U,qh (lj (iC u.1.size)) (iK l - 4) (iK l - 4),x 44,x 45,x 46,x 47,x 48,x 49,x 50,x 51]:gZ).getD i qp) Z Y H P iI iI)
def Ano{q}{a:gR}(c)(l:b.fn=64)(E:b.kind=.normal)(Z:∀g O v w T ad o body a1 a6,a=body::a1->Je [] a6 a1 q t->4<=iK w->w.drop 4=body->iK w<=1004->Wk J Bs e pg d U f S O v sd w->(∃i H,v=qh (lj (iC i)) (iK w) H)->(∀i,v.ownBlock=lj i->i≠o)->Src Bs O f T a6->O.1[o]?=lj (oh (A4 body).toArray 5)->iL e.1<=o->¬S o->¬Bs o->g 41=c->g 43=qh (lj (iC o)) (iK body) (iK body)->∀P,F (Y0 b j z d U T c ad g) (O.at P))(a7:a = []->t=sd->∀m O v,m.defers = []->Wk J Bs e pg d U f S O v sd q->EV y7 k J F (G (b.at m j) z) O)(a8:a = []->t=km->q = []->∀m O W,m.defers = []->Wk J Bs e pg d U f S O (qh jh 0 0) km []->EV y7 k J F (G { b.at m W with mode:=.returning } z) O):∀{p bs},Je p bs a q t->Wz p->∀u(r T N:uo)x,Wk J Bs e pg d U f S u r sd p->Src Bs u f T bs ->
   EV y7 k J F (G (b.at (Dl (Jk d U) T c N x) (.code Pz::.inLoop Pz::.inBlock 0::j)) z) u:=by
 intro p bs K
 induction K with
 |done p=>
  intro Q u r T N x h s;obtain⟨L,I,rfl,C,_⟩:=s.at';refine EV.seqC (EV.piece l E (Ai2 L _ I (Jk d U) c N x) ?_);rintro aa ak al⟨rfl,⟨x1,rfl⟩,rfl⟩;simp only[aW,Nat.lt_irrefl,bR];exact⟨j,iI,a7 iI iI _ _ r iI h⟩
 |long D X=>
  intro Q u r T N x h s;obtain⟨L,I,rfl,C,_⟩:=s.at';exact SL h Q L I s D c N x l E (λ_ m O W ae R=>a8 iI iI iI m O W ae R) (λan=>Aa)
 |@body p bs a q t D X y K ab=>
  intro Q u r T N x h s;obtain⟨L,I,rfl,C,_⟩:=s.at';refine SL h Q L I s D c N x l E (λaf=>Aa) λ_ g O i H V R Y M=>?_;rw[y]at M;have h4:=Aaj y;have ah:=Z9 (bs:=bs) Q;refine Aoz R.C h4 Aa V c _ g M l E λai B hr K2 aj n A P=>?_;refine Z ai B _ (Fa p bs) V _ O.1.size _ _ _ iI K h4 iI ah (R.kx K2 aj) ⟨i,H,iI⟩ (λg' aa=>?_) (Y.kx K2 λh=>h) hr R.K.size (λh=>by have:=R.4 _ h;omega) (λh=>by have:=R.C.W.lt h;omega) n (by rw[A,cV]) P;have:=Cm R.C.own aa;omega
 |@more p bs a q t D X y K ab=>
  intro Q u r T N x h s;obtain⟨L,I,rfl,C,_⟩:=s.at';refine SL h Q L I s D c N x l E (λaf=>Aa) λ_ g O i H V R Y M=>?_;refine EV.condC (t:=sd) (M.trans (by rw[decide_eq_false y])) ?_;simp only[bR,aR];refine EV.skipC (EV.inBlockC (EV.inLoopC ?_));exact ab Z a7 a8 (Ur Q X y) O _ V _ g R Y
end
section
variable {G:Nat->uo×uo}
variable {J:gW} {num a:Int} {t:uo} {b:gT}
structure Gi(G:Nat->uo×uo)(J:gW)(Bs:gV)(u:gk)(sb num a en t)(b:gT):Prop where
 inb:Bs sb
 j:∀k,k≠1->k≠2->¬J (.cell (iD sb k))
 row:∃c,u.1[sb]?=lj (oh c 84)/\c.size=6/\c[0]?=lj (iE num)/\c[3]?=lj (iE a)/\c[4]?=lj (gd en)/\c[5]?=lj t
 own:u.ownsRow 0 5 1 t (iK b) (A4 b)
 ap:∀g,t.ownBlock=lj g->¬Bs g
 tl:∀c,u.1[sb]?=lj (oh c 84)->c[1]?=lj (G sb).1/\c[2]?=lj (G sb).2
def Gi.cell(S:Gi G J Bs u sb num a en t b):u.cell? (iC sb)=lj (iE num)/\u.cell? (iD sb 3)=lj (iE a)/\u.cell? (iD sb 4)=lj (gd en)/\u.cell? (iD sb 5)=lj t:=by
 have ⟨c,h,_,F,T,q,z⟩:=S.row;exact⟨cellOf h F,cellOf h T,cellOf h q,cellOf h z⟩
def Gi.fz(S:Gi G J Bs u sb num a en t b)(k):u.frozen? (iD sb k)=sd:=by
 have ⟨c,h,_⟩:=S.row;exact Dm h
def Gi.lt(S:Gi G J Bs u sb num a en t b):sb<iL u.1:=by
 have ⟨c,h,_⟩:=S.row;exact ltOf h
def Gi.kx(S:Gi G J Bs u sb num a en t b)(K:Ax u O X)(C:¬X sb)(d:∀g,t.ownBlock=lj g->¬X g):Gi G J Bs O sb num a en t b:=by
 have ⟨e,h,Y⟩:=S.row;exact⟨S.inb,S.j,⟨e,(K.block sb (ltOf h) C).trans h,Y⟩,Dh S.own λg c=>K.block g (Cm S.own c) (d g c),S.ap,λx Z=>S.tl x ((K.block sb (ltOf h) C).symm.trans Z)⟩
def Gi.at(S:Gi G J Bs u sb num a en t b)(d):Gi G J Bs (u.at d) sb num a en t b:=⟨S.inb,S.j,S.row,S.own,S.ap,S.tl⟩
def Gi.slice(S:Gi G J Bs u sb num a en t b):∃c d,t=qh c (iK b) d:=by
 rcases S.own with⟨_,⟨rfl,h⟩|⟨g,I,H,rfl,_⟩⟩
 ·grind
 ·exact⟨_,_,iI⟩
def AX(w t y)(l r:gT)(e:w.ownsRow 0 5 1 t (iK l) (A4 l))(i:w.ownsRow 0 5 1 y (iK r) (A4 r))(h:0<iK r)(K:iK l+iK r<=100000000000):∃g c a,(Builtin.append_ #[37,37] 37 #[t,y]).run N w=.ok (qh (lj (iC g)) (l++r).length c) a/\a.ownsRow 0 5 1 (qh (lj (iC g)) (l++r).length c) (l++r).length (A4 (l++r))/\Ax w a (λm=>t.ownBlock=lj m)/\(t.ownBlock=lj g∨g=iL w.1):=by
 obtain⟨b,d,v,W,T⟩:=info_parts Tryz.info5;obtain⟨X,I,rfl,C,D⟩:=Wi i h;have M:∀j(u:uo),(A4 r)[j]?=lj u->w.cell? (((iC X):Addr).add j)=lj u:=λj u f=>by
  have n:j<iK r:=by have:=(aF.1 f).1;simpa[A4] using this
  have p:=D j n;simp only[A4,aS,aH n,aI,aT]at f
  rwa[←f,wh]
 obtain⟨g,c,a,Y,J,O,q,z⟩:=run_append_lies (P:=N) w 37 37 0 5 b _ 1 1 pfr d v W T iI Ae t (iK l) _ e (iC X) (iK r) I (A4 r) (by simp[A4]) M (Mo r) h Aga Aa (bF _) _ iI;rw[←Iv,←aK]at J;rw[←aK]at Y;exact⟨g,c,a,Y,J,⟨O.os,O.tape,O.output,O.size,λk E Z=>O.block k E (λo=>Z o.symm)⟩,q⟩
structure Told(G:Nat->uo×uo)(J Bs u O sb num a en)(t:uo)(b l):Prop where
 K:Ax u O (λi=>i=sb∨t.ownBlock=lj i)
 W:VW J Bs O
 S:∃ov',Gi G J Bs O sb num a en ov' (b++l)/\∀g,ov'.ownBlock=lj g->t.ownBlock=lj g∨iL u.1<=g
 own1:∀k c c',u.1[sb]?=lj (oh c 84)->O.1[sb]?=lj (oh c' 84)->k≠5->c'[k]?=c[k]?
def OG(k:VW J Bs u)(S:Gi G J Bs u sb num a en t b)(f)(l:gT)(L:0<iK l)(hl:iK b+iK l<=100000000000)(hf:u.ownsRow 0 5 1 f (iK l) (A4 l))(ad:∀E,f.ownBlock=lj E->¬Bs E):Bg y7 km J F 70 #[iB sb,f] u λx O=>x=js #[]/\Told G J Bs u O sb num a en t b l:=by
 obtain⟨C,U,rfl⟩:=S.slice;have w:=S.j 5 Ae Ae;generalize p:iK b=o at *;apply Bl func70 Ac iI (R:=λ_=>js #[]) (λ_ _=>ksi Ac _ _ _) (λ_ _=>jil Ac _ _);simp only[ntmps70,na,Nat.reduceAdd,Nat.reduceSub];refine Dur ?_;apply Bp S.cell.2.2.2 w;walk_nrm;refine V2g ?_;refine Dw (i:=6) (S:=env Lv) k iI Ac (B7 Ab) (A6 _ _) (X:=λi=>(Value.slice C o U).ownBlock=lj i) (R:=λx L'=>∃E e,x=qh (lj (iC E)) (b++l).length e/\L'.ownsRow 0 5 1 x (b++l).length (A4 (b++l))/\((Value.slice C o U).ownBlock=lj E∨E=iL u.1)) (λI ae N=>?_) (λa6 y=>?_) ?_
 ·obtain⟨aa,s,W⟩:=k.3 I ae;obtain⟨_,⟨M,_⟩|⟨E,ab,af,M,_,T,_⟩⟩:=S.own
  ·rw[M]at N;cases N
  ·rw[M]at N;obtain rfl:E=I:=by simpa[Value.ownBlock] using N
   rw[T]at s;obtain rfl:=aB s;cases W
 ·obtain⟨E,e,w',ae,k1,k2,k3⟩:=AX a6 (qh C o U) f b l (by rw[p];exact Dh (p▸S.own) λE c=>y.same (S.ap E c)) (Dh hf λE c=>y.same (ad E c)) L Aa;refine⟨_,w',r7 ?_,⟨E,e,iI,k1,k3.imp id λN=>by rw[N,y.size]⟩,k2⟩;exact Ewe
 rintro x Z L1 q W1 V ah⟨E,e,rfl,s,c⟩;have v:¬Bs E:=by
  rcases c with N|N
  ·exact S.ap E N
  ·exact λhB=>by have:=k.lt hB;omega
 have r:Z.ownsRow 0 5 1 (qh (lj (iC E)) (b++l).length e) (b++l).length (A4 (b++l)):=Dh s λh j=>by
  obtain rfl:E=h:=by simpa[Value.ownBlock] using j
  exact(V E v).symm
 obtain⟨cs,g,a7,ai,R,aj,z⟩:=S.row;have d:Z.1[sb]?=lj (oh cs 84):=(q.block sb (ltOf g) λN=>S.ap sb N S.inb).trans g;walk_nrm;refine Wad ?_;generalize n:(b++l).length=X at *;refine Cy (S:=env Lv) iI Ac (B7 Ab) (A6 _ _) (x:=qp) (v':=(Z.setCell (iD sb 5) (qh (lj (iC E)) X e))) (λm=>kr ⟨by have H:=(show ur (World.at Z m) _=_ from(cellOf (j:=5) d z));have a1:=(show tv (World.at Z m) _=sd from(Dm (j:=5) d));walk_nrm;go_simp;first|done|rfl,rfl⟩) (λm=>by have H:=(show ur (World.at Z m) _=_ from(cellOf (j:=5) d z));have a1:=(show tv (World.at Z m) _=sd from(Dm (j:=5) d));walk_nrm;intro av Y;simp[go_sem,H,a1,gog _ _ _ _ (Value.slice _ _ _) lc2 iI,gog _ _ _ _ (Value.bool _) lc2 iI,jd]at Y;subst Y;exact Cl w) ?_;walk_nrm;have D:(Z.setCell (iD sb 5) (qh (lj (iC E)) X e)).1[sb]?=lj (oh (cs.setIfInBounds 5 (qh (lj (iC E)) X e)) 84):=by rw[heap_setCell,aL iI,d];rfl
 have A:=Et Z sb 5 (qh (lj (iC E)) X e);have K:=W1.set sb 5 (qh (lj (iC E)) X e);generalize Z.setCell (iD sb 5) (qh (lj (iC E)) X e)=u2 at D A K⊢;refine Au ⟨r7 iI,iI,trivial,(q.mono λ_ N=>kr N).trans (A.mono λ_ N=>r7 N),K,⟨qh (lj (iC E)) X e,⟨S.inb,S.j,⟨_,D,by simp[a7],?_,?_,?_,?_⟩,?_,λh j=>?_,?_⟩,λh j=>?_⟩,λak al a' B P hk=>?_⟩
 ·rwa[aD Ae]
 ·rwa[aD Ae]
 ·rwa[aD Ae]
 ·rw[aQ Aa]
 ·rw[n];refine Dh r λh j=>?_;obtain rfl:E=h:=by simpa[Value.ownBlock] using j
  exact A.block E (Cm r iI) λa8=>v (a8▸S.inb)
 ·obtain rfl:E=h:=by simpa[Value.ownBlock] using j
  exact v
 ·intro x Q;rw[D]at Q;cases Q;rw[aD Ae,aD Ae];exact S.tl cs g
 ·obtain rfl:E=h:=by simpa[Value.ownBlock] using j
  exact c.imp id λN=>Aa
 ·rw[g]at B;rw[D]at P;cases B;cases P;exact aD (dG hk)
end
@[reducible] noncomputable def JQ(L:Mw)(ChL WgL ChB WgB NA N0:Nat)(fA fB:Nat->Nat)(w0:Z)(low:Nat)(JA JB:gW)(FinA:vr->Z->Prop)(FinB:(Nat->Prop)->vr->Z->Prop):M8:=
 {L,P:=N,ty:=128,ChL,WgL,ChB,WgB,NA,N0,fA,fB,w0,low,JA,JB,msgT:=5,msgV:=λi m=>qh (lj (iC i)) m.size m.size,FinA,FinB }
noncomputable def bot:qq:={ (default:qq) with fn:=prog.funcs.size,defers:=[],mode:=.panicking [pq] }
noncomputable def GJ:sf:=f62.body.getD .skip
noncomputable def Adz:Array ox:=match GJ with|.seq _ (.seq _ (.region _ ops _))=>ops|_=>#[]
noncomputable def KD(T:gY)(Wg Ch:Nat):Act:=⟨T,[Oo 118 0 Ch,dcall 63 #[iB Wg]]⟩
noncomputable def QM(T:gY)(Wg Ch:Nat):qq:=(baseD 62).at (KD T Wg Ch) [.inRegion Adz [3]]
noncomputable def FM(T:gY)(Wg Ch:Nat):vr:=G { (baseD 62).at (KD T Wg Ch) [] with mode:=.returning } [bot]
def VK(n):Bj n bot=bot:=by
 have S:(default:qq).tmps=#[]:=iI;have L:(default:qq).todo = []:=iI;have Y:(default:qq).7=jh:=iI;simp[Bj,bot,Jx,pq,Eu,S,L,Y]
def EU(n T q N):Bw n (KD T q N)=KD (T.map (Az n)) (sh n q) (sh n N):=by
 simp[Bw,KD,Oo,dcall,O5, Ei,Wn,Mq]
def Aeu(n T q N):Bn n (FM T q N)=FM (T.map (Az n)) (sh n q) (sh n N):=by
 unfold FM;rw[Ep];simp only[bC,cM,VK];rw[←(EU n T q N)]
 rfl
def rowOf(b:gT):Array uo:=(A4 b).toArray
def FA(n b):(rowOf b).map (Az n)=rowOf b:=by
 simp[rowOf,A4]
def AU(b):(rowOf b).size=iK b:=by simp[rowOf,A4]
def AM(n c b j m x):Bw n (Dl c b j m x)=Dl (Az n c) (Az n b) (Az n j) (Az n m) (λi=>Az n (x i)):=by
 simp[Bw,Dl,Eu]
set_option maxRecDepth 100000 in
def Aj7(c T a x j Ch X)(n:X 41=.chan (lj Ch))(A:X 43=x)(k z w):stepG N sd (G ((base 64).at (Dl c T j a X) (.inRegion YJ [3]::k)) z) w=.comm (core (G ((base 64).at (Dl c T j a X) (.inRegion YJ [3]::k)) z)) #[scase Ch x (js #[])] km .send w #[]:=by
 simp only[YJ,Agu,KR,XC,If,Jj,Iz,Code.core,Code.one,Code.two,Code.yes,Code.opsOf,fqp,Dl,n,A];rw[stepG_comm iI Ac Ae (cases:=#[scase Ch x (js #[])]) (blocking:=km) (shape:=.send) (w':=w) (by simp[execOp,scase,euo])]
 rfl
section
variable {L:Mw} {p m low:Nat} {x:Nat->Nat} {r:Z} {k Y:gW} {d:vr->Z->Prop} {f:Nat} {tl:Bool}
def TP(Y:gW)(Bs:gV)(e:Z)(pg:hY)(sb U f:Nat)(q:gT)(t:Bool)(S:gV)(v:Z):Prop:=∃a,Wk Y Bs e pg sb U f S v a t q
def TQ(Y:gW)(Bs:gV)(e:Z)(pg:hY)(sb U f j K:Nat)(q:gT)(t:Bool)(S:gV)(g:vr)(v:Z):Prop:=(∃T,g=FM T j K)/\TP Y Bs e pg sb U f q t S v
def Wk.at(h:Wk Y Bs e pg sb U f S u a tl l)(d):Wk Y Bs e pg sb U f S (u.at d) a tl l:=⟨h.C.at d,h.K.at d,h.P,h.4,h.5⟩
def Zg{q}(d)(h:TP Y Bs e pg sb U f q t S u):TP Y Bs e pg sb U f q t S (u.at d):=let⟨a,h⟩:=h;⟨a,h.at d⟩
def Xo(w i):Ax w (Bb (· = i) w) (· = i):=by
 exact K4f
def Wk.sent(j:Wk Y Bs e pg sb U f S u a tl l){i}{c:gY}{t}(m:u.1[i]?=lj (oh c t))(V:iL e.1<=i)(n:¬Bs i)(H:∀g,a.ownBlock=lj g->g≠i):Wk Y Bs e pg sb U f (λd=>S d∨d=i) (Bb (· = i) u) a tl l:=by
 have K:=Xo u i;have W:=j.C.W.ofK K (λd h b=>n (b▸h)) λr I b=>by
  have ⟨o,O,z⟩:=j.C.W.3 r I;rw[b,m]at O;obtain rfl:=aB O;cases z
 refine⟨j.C.kx K W (λb=>n (b▸j.C.inb)) H,⟨K.os.trans j.K.os,K.tape.trans j.K.tape,K.output.trans j.K.output,aE j.K.size K.size,λk E Z=>(K.block k (aA E j.K.size) λb=>Aa).trans (j.K.block k E Z)⟩,λg b=>⟨(j.P g b).1,(j.P g b).2.1,λq=>q.elim (j.P g b).2.2 (H g b)⟩,λd h=>?_,j.5⟩;rw[Dc];rcases h with h|rfl
 ·exact j.4 d h
 ·exact ltOf m
def Ajf{J}{a:vr->Z->Prop}{b}(T c)(y:b.defers = [])(h:∀B d,a (FM B j K) (u.at d)):EV N sd J a (G { (base 64).at b c with mode:=.returning } [QM T j K,bot]) u:=by
 apply EV.leave y func64 iI (λw=>ksi Ac _ _ _) (λw=>jil Ac _ _);unfold QM;rw[Frame.finish_at,show Adz[3]?=lj (Adz[3]' Ae) from iI];refine EV.regionEnd (EV.endC ?_);exact EV.stop λd=>h _ d
def scB(z)(hN:iL e.1=m)(ar:f<iL e.1){q}:∀(F:gR) S {a W},Je a W F q t->Wz a->∀u(w T N:uo)y,Wk Y Bs e pg sb U f S u w sd a->Src Bs u f T W ->
  EV y7 sd Y (ScB (JQ L b c K j p m x E r low k Y d (TQ Y Bs e pg sb U f j K q t)) (F.map rowOf) S) (G ((base 64).at (Dl (Jk sb U) T (.chan (lj K)) N y) (.code Pz::.inLoop Pz::.inBlock 0::[])) [QM z j K,bot]) u:=by
 intro F
 induction F with
 |nil=>
  intro S a W H Q u w T N y I s;refine Ano (b:=base 64) (.chan (lj K)) iI iI (λ_ _ _ _ _ _ _ _ _ _ g=>by cases g) (λ_ R X O Z M h=>?_) (λ_ R ad X O l M h=>?_) H Q u w T N y I s
  ·subst R;exact EV.endC (Ajf z [] M λB v=>⟨iI,⟨B,iI⟩,Zg v ⟨Z,h⟩⟩)
  ·subst R ad;exact Ajf z l M λB v=>⟨iI,⟨B,iI⟩,Zg v ⟨_,h⟩⟩
 |cons a1 au ae=>
  intro S a W H Q u w T N y I s;refine Ano (b:=base 64) (.chan (lj K)) iI iI (λa6 O Z af V a7 i av aw C g ah h4 ax ay h ai aj ak a8 hi al D az A v=>?_) Am8 Am8 H Q u w T N y I s;obtain⟨rfl,rfl⟩:=fF g;obtain⟨b5,an,rfl⟩:=ai;refine⟨i,js #[],⟨iI,⟨FA _ _,λn=>FA n _⟩,λn ao hG=>?_⟩,⟨by show m<=i;omega,al⟩,a8,?_⟩
  ·unfold Y0;rw[Ep,Gn,AM];refine Aj7 (Ch:=sh n K) _ _ _ _ _ _ ?_ ?_ _ _ ao
   ·simp_all
   ·show Az n (a6 43)=_
    show _=Value.slice (lj ⟨sh n i,0,jh⟩) (rowOf a1).size (rowOf a1).size;rw[A,AU];simp[Az,Ei]
  ·show EV y7 sd Y _ (mz (core (Y0 _ _ _ _ _ _ _ _ _)) qp) _;unfold Y0;rw[Ws (o:=YJ[3]' Ae) iI];apply EV.regionEnd;have aa:=(h.at v).sent (i:=i) a8 hi D aj;have o:iK af<=an:=by
    obtain⟨_,⟨g,_⟩|⟨g',b6,b7,g,_,_,hc,_⟩⟩:=h.C.own
    ·cases g
    ·cases g;exact hc
   apply EV.piece (b:=base 64) (fn:=64) iI iI (Ann aa.C o V (.chan (lj K)) a7 a6);rintro g X u2⟨rfl,⟨x2,rfl⟩,J,aq⟩;refine EV.inBlockC (EV.inLoopC ?_);apply ae (λab=>S ab∨ab=i) ah Kj u2 _ V a7 x2 (aa.step (J.mono λ_ P=>r7 P) aq λg' g=>r7 g);refine((ak.kx (Ax.at (Ax.refl O iH) v) λP=>P).kx (Xo _ i) λg=>Aa).kx J λg=>?_;exact h.5 (g▸h.C.inb)
def Ahv(T:gY):QuitsD N 2 0 (G { (baseD 62).at ⟨T,[]⟩ [] with mode:=.returning } [bot]):=by
 refine QuitsD.ctl (g':=G bot []) iI (λw=>?_) ?_
 ·simp[G,stepG,unwind,doReturn,results,Frame.at,baseD,bot,func62,f62,seen,GStep.after,pq]
 refine QuitsD.ctl (g':={ G bot [] with status:=.finished }) rfl (λw=>?_) ⟨rfl,rfl⟩;simp[G,stepG,unwind,bot,pq,Frame.catches]
 rfl
def Aib(D:M8):Terms D.RW Go.Pair.D0:=⟨λ_ _ _ h k x=>k (h x),λw=>⟨iI,iI⟩⟩
set_option maxRecDepth 100000 in
def Aq4{a:(Nat->Prop)->vr->Z->Prop}(f:L.Wg≠L.Ch)(T w)(W:D9 128 L.Wg w):WCl (JQ L b c K j p m x E r low k Y d a) (FM T L.Wg L.Ch) w:=by
 refine⟨iI,iI,λs e g z=>⟨_,Tj iI Ac z,iI,103+1,?_⟩⟩;have i:D9 128 L.Wg (w.shut L.Ch s e g):=by
  have ⟨l,sm,h⟩:=W;refine⟨l,sm,?_⟩;unfold Dx at h⊢;rw[←h];exact Lz f
 apply Dp (Aib _) iI (λw=>stepG_unwind_enter iI func63 Ac iI);exact Ans (D:=JQ L b c K j p m x E r low k Y d a) Tryz.wgLib iI iI (Ahv T) _ i
end
structure X1(Tabs:gX)(gN)(v:gk):Prop where
 size:gN<=iL v.1
 tabs:Tabs v
 table:Table v
 rq1:v.cell? ⟨0,4,jh⟩=lj (pc ⟨#[40,52,52,116,98,41]⟩)
 rq2:v.cell? ⟨0,7,jh⟩=lj (pc ⟨#[40,52,52,116,52,41]⟩)
 rq3:v.cell? ⟨0,10,jh⟩=lj (pc ⟨#[40,52,52,116,98,52,41]⟩)
 rq5:v.cell? ⟨0,16,jh⟩=lj (pc ⟨#[40,52,52,116,63,41]⟩)
 rq4:v.cell? ⟨0,13,jh⟩=lj (pc ⟨#[40,52,52,116,63,41]⟩)
 rq6:v.cell? ⟨0,19,jh⟩=lj (pc ⟨#[40,52,52,116,63,41]⟩)
 rq7:v.cell? ⟨0,22,jh⟩=lj (pc ⟨#[40,52,52,41]⟩)
 an4:v.cell? ⟨3,4 * 3+1,jh⟩=lj (pc ⟨#[40,52,56,52,98,40,56,56,52,52,41,41]⟩)
 an6:v.cell? ⟨3,6 * 3+1,jh⟩=lj (pc ⟨#[40,52,56,52,91,116,93,41]⟩)
 an7:v.cell? ⟨3,7 * 3+1,jh⟩=lj (pc ⟨#[40,52,56,52,41]⟩)
 an1:v.cell? ⟨3,1 * 3+1,jh⟩=lj (pc ⟨#[40,52,56,52,116,41]⟩)
 an2:v.cell? ⟨3,2 * 3+1,jh⟩=lj (pc ⟨#[40,52,56,52,41]⟩)
 an3:v.cell? ⟨3,3 * 3+1,jh⟩=lj (pc ⟨#[40,52,56,52,40,56,56,52,52,41,41]⟩)
 an5:v.cell? ⟨3,5 * 3+1,jh⟩=lj (pc ⟨#[40,52,56,52,40,56,56,52,52,41,41]⟩)
 ml:∃m,v.cell? ⟨1,0,jh⟩=lj (iE m)
def Am3(Tabs:gX)(gN:Nat)(u:Z):Prop:=∀v:Z,(∀i,i<8->v.1[i]?=u.1[i]?)->gN<=iL v.1->X1 Tabs gN v
section
variable {G:Nat->uo×uo}
variable {z:gX} {J:gW} {c:gV} {num a:Int} {t:uo} {b:gT}
structure Cx(z y J c u):Prop where
 W:VW J c u
 G:Am3 z y u
 bs:∀i,c i->8<=i
 sz:y<=iL u.1
 g8:8<=y
def Cx.kx8(C:Cx z y J c u)(E:Ax u O X)(k:VW J c O)(t:∀i,X i->8<=i):Cx z y J c O:=
 ⟨k,λv q s=>C.G v (λi V=>(q i V).trans (E.block i (aA V (aE C.g8 C.sz)) λZ=>by have:=t i Z;omega)) s,C.3,aE C.sz E.size,C.g8⟩
def Cx.kx(C:Cx z y J c u)(E:Ax u O X)(k:VW J c O)(t:∀i,X i->y<=i):=C.kx8 E k λi V=>aE C.g8 (t i V)
def Cx.glob(C:Cx z y J c u)(s:X4 c u v):=
 C.G v (λi V=>s.same λD=>by have:=C.3 i D;omega) (by rw[s.size];exact C.sz)
def Bo(h:iF w B):Ax w B X:=Ax.of_below h (aC _)
def BsB(c:gV)(u:Z)(bv:uo)(l:gT):Prop:=∃b off cap,bv=qh (lj (iD b off)) (iK l) cap/\iK l<=cap/\b<iL u.1/\¬c b/\Bytes u b off l
def BsB.sim(h:BsB c u T l)(s:X4 c u v):J5 v T l:=by
 have ⟨b,off,I,C,J,a,q,z⟩:=h;exact⟨b,off,I,C,J,by rwa[s.size],λi V=>(Cg (s.same q)).trans (z i V)⟩
def BsB.kx(h:BsB c u T l)(E:Ax u O X)(t:∀b,X b->b<iL u.1->c b):BsB c O T l:=by
 have ⟨b,off,I,C,J,a,q,z⟩:=h;exact⟨b,off,I,C,J,aA a E.size,q,λi V=>(Cg (E.block b a λZ=>q (t b Z a))).trans (z i V)⟩
def Qj{B}{X:gZ}(W:VW J c O)(N:∀i,c i->i<B)(s:∀i,¬c i->L.1[i]?=O.1[i]?)(h:L.ownsRow B 5 1 x n X):O.ownsRow 0 5 1 x n X/\∀g,x.ownBlock=lj g->¬c g/\B<=g:=by
 obtain⟨F,⟨rfl,C⟩|⟨g,I,H,rfl,a,T,q⟩⟩:=h
 ·exact⟨⟨F,r7 ⟨iI,C⟩⟩,λg e=>HL⟩
 ·refine⟨⟨F,kr ⟨g,I,H,iI,bF _,Aj,q⟩⟩,λR e=>?_⟩;obtain rfl:g=R:=by simpa[Value.ownBlock] using e
  exact⟨(λD=>by have:=N g D;omega),a⟩
def Gi.setVer(S:Gi G J c u d num a en t b)(v):Gi G J c (u.setCell (iD d 3) (iE v)) d num v en t b:=by
 obtain⟨e,h,N,F,T,q,z⟩:=S.row;refine⟨S.inb,S.j,⟨e.setIfInBounds 3 (iE v),by rw[heap_setCell,aL iI,h];rfl,by simp[N],?_,?_,?_,?_⟩,Dh S.own λg f=>Eg _ _ λi=>S.ap g f (i▸S.inb),S.ap,λx Z=>?_⟩
 ·grind
 ·grind
 ·rwa[aD Ae]
 ·simp_all
 ·rw[heap_setCell,aL iI,h]at Z;cases Z
  show(e.setIfInBounds 3 (iE v))[1]?=_/\(e.setIfInBounds 3 (iE v))[2]?=_;exact Dlp
def Akt(o:It h z)(C:Cx z y J c u)(S:Gi G J c u d num 0 en t b)(N:iK b<=10000000000)(Y:∀k,t.ownBlock=lj k->y<=k)(H T)(M:BsB c u T [0,0,0,1]):Bg y7 km J F 66 #[H,iB d,T] u λx O=>x=js #[]/\Ax u O (λi=>i=d∨t.ownBlock=lj i)/\VW J c O/\∃n,Gi G J c O d num 1 en n (b++[0,0,0,4,0,0,0,1])/\∀k,n.ownBlock=lj k->t.ownBlock=lj k∨iL u.1<=k:=by
 refine Bl func66 Ac iI (R:=λ_=>js #[]) (λ_ _=>ksi Ac _ _ _) (λ_ _=>jil Ac _ _) ?_;simp only[ntmps66,na,Nat.reduceAdd,Nat.reduceSub];refine Wqw ?_;refine V2g ?_;refine A2 (Gg (f:=115) (args:=#[T]) Ae C.W (X:=λ_=>False) (R:=λx _=>x=js #[iE 1,gd km]) (λ_ _ Z=>Z) λv s=>?_) iI Ac iI Af ?_
 ·have l:=C.glob s;exact(CQ o v l.tabs l.table T [0,0,0,1] Ae (M.sim s) 1 (Of h parse_hello (puts_hello h (n:=1) Ae Ae))).mono λm e Z=>⟨⟨_,Z.1,iI⟩,Bo Z.2⟩
 rintro x a⟨X,P,Q,W,a6,rfl⟩;refine Mtk ?_;refine Ro8 ?_;refine M8j ?_;refine Gd2 ?_;refine Rgq ?_;refine K5o ?_;refine M8j ?_;refine Gd2 ?_;refine Rgq ?_;refine K5o ?_;refine Wqw ?_
 iterate 5(refine V2g ?_)
 have S1:=S.kx X (λZ=>Z) λ_ _ Z=>Z;refine Cy (S:=env Lv) iI Ac (B7 Ab) (A6 _ _) (x:=qp) (v':=a.setCell (iD d 3) (iE 1)) (λg=>kr ⟨by have hc:=(show ur (World.at a g) (iD d 3)=_ from S1.cell.2.1);have hf:=(show tv (World.at a g) (iD d 3)=sd from S1.fz 3);walk_nrm;go_simp;first|done|rfl,rfl⟩) (λg=>by walk_nrm;intro m K;simp[go_sem,((show ur (World.at a g) (iD d 3)=_ from S1.cell.2.1)),((show tv (World.at a g) (iD d 3)=sd from S1.fz 3)),gog _ _ _ _ (Value.int _ _) lc2 iI,jd]at K;subst K;exact Cl (S.j 3 Ae Ae)) ?_;walk_nrm;refine Ro8 ?_;have j:=S1.setVer 1;have U:=P.set d 3 (iE 1);have ad:=Et a d 3 (iE 1);generalize a.setCell (iD d 3) (iE 1)=a1 at j U ad⊢;have w:Ax u a1 (· = d):=(X.mono λ_ Z=>Z.elim).trans ad;refine Dur ?_;refine Bp j.cell.2.1 (S.j 3 Ae Ae) ?_;walk_nrm;refine A2 (Gg (f:=116) (args:=#[iE 1]) Ae U (X:=λ_=>False) (R:=λx e=>e.ownsRow a1.1.size 5 1 x 8 (A4 [0,0,0,4,0,0,0,1])) (λ_ _ Z=>Z) λv s=>?_) iI Ac iI Af ?_
 ·have l:=(C.kx8 w U (λi Z=>by subst Z;exact C.3 i S.inb)).glob s;refine(XT o v l.tabs l.table 1 Ae Ae).mono λm e Z=>?_;exact Boo
 rintro f E⟨L,a7,aj,ab,ak,af⟩;walk_nrm;obtain⟨r,q⟩:=Qj a7 (λi V=>U.lt V) ab af;refine A2 (OG a7 (j.kx L (λZ=>Z) λ_ _ Z=>Z) f [0,0,0,4,0,0,0,1] Ae Ah r λk p=>(q k p).1) iI Ac iI Af ?_;rintro x ae⟨rfl,D⟩;walk_nrm;obtain⟨n,B,I⟩:=D.S;have A:Ax u E (λi=>i=d∨t.ownBlock=lj i):=(w.mono λ_ Z=>r7 Z).trans (L.mono λ_ Z=>Z.elim);refine Au ⟨r7 iI,iI,trivial,A.trans D.K,D.W,n,B,λk p=>(I k p).imp id λZ=>aE A.size Z⟩
end
noncomputable def J7:sf:=f46.body.getD .skip
noncomputable def Vo:sf:=Code.two (Code.two (Code.two (Code.two (Code.two (Code.two J7)))))
noncomputable def UU:sf:=Code.core (Code.core (Code.two (Code.one Vo)))
noncomputable def EW:sf:=Code.two UU
noncomputable def CO:Array ox:=Code.opsOf (Code.one UU)
noncomputable def Aom:Array ox:=Code.opsOf (Code.one (Code.core (Code.two EW)))
noncomputable def Ai7:Array ox:=Code.opsOf (Code.two (Code.core (Code.two EW)))
noncomputable def Ku:sf:=Code.two Vo
noncomputable def VD:Array ox:=Code.opsOf (Code.one Ku)
noncomputable def HJ:sf:=Code.two Ku
noncomputable def Ke(y:hQ):Act:={ tmps:=#[y 0,y 1,y 2,y 3,y 4,y 5,y 6,y 7,y 8,y 9,y 10,y 11,y 12,y 13,y 14,y 15,y 16,y 17,y 18,y 19,y 20,y 21,y 22,y 23,y 24,y 25,y 26,y 27,y 28,y 29],defers:=[] }
def Ys(n y):Bw n (Ke y)=Ke λi=>Az n (y i):=by simp[Bw,Ke]
noncomputable def Gb(kk:List Item)(z:List qq)(y:hQ):vr:=G ((base 46).at (Ke y) (.inRegion CO [0,1]::.code EW::.inLoop (.seq (.region 8 CO sd) EW)::.inBlock 0::kk)) z
def Mr(n z y):Bn n (Gb [.code Ku] z y)=Gb [.code Ku] (z.map (Bj n)) λi=>Az n (y i):=by
 unfold Gb;rw[Ep,Gn,Ys]
 rfl
noncomputable def Hq(z:List qq)(y:hQ):vr:=G ((base 46).at (Ke y) [.inRegion VD [],.code HJ]) z
def U5(n z y):Bn n (Hq z y)=Hq (z.map (Bj n)) λi=>Az n (y i):=by
 unfold Hq;rw[Ep,Gn,Ys]
 rfl
section
variable {J:gW} {j:List Item}
def Aou(y f cap)(x:uo)(U:y 2=.func (.func f) #[] cap){n:gX}(g:Bg N km J F f (#[x]++cap) u λr O=>r=js #[]/\n O)(C:∀W O,n O->(∀a,a<9∨a=17->W a=y a)->∀d,F (Gb j z W) (O.at d)):EV N km J F (mz (core (Gb j z y)) (js #[x,gd km])) u:=by
 have E:(base 46).kind=.normal:=iI;unfold Gb;rw[Ws (o:=CO[0]' Ae) iI];refine EV.opPure (S:=env Lv) (fn:=46) (x:=gd km) E iI Ac (B7 Ab) (A6 _ _) (λw=>Ac) (λw=>Ac) ?_;refine EV.regionEnd (EV.seqC (EV.condC (t:=km) Ac ?_));simp only[bQ];refine EV.skipC (EV.blockC (EV.seqC (EV.regionC (ops:=Aom) ?_)));rw[show yo Aom.size = [0,1] from iI]
 iterate 2(refine Lm7 ?_)
 refine EV.regionEnd (EV.regionC (ops:=Ai7) ?_);rw[show yo Ai7.size = [0,1,2] from iI];refine EV.opPure (S:=env Lv) (fn:=46) (x:=.func (.func f) #[] cap) E iI Ac (B7 Ab) (A6 _ _) (λw=>by rw[←U];rfl) (λw=>Ac) ?_;refine Lm7 ?_;refine EV.opClo (f:=f) (cap:=cap) (q:=.tmp 21) (args:=#[.tmp 22]) (ats:=#[37]) E iI Ac iI Ac Ac (by simp[Eh]) (by simp[euo];rfl) g ?_;rintro r Z⟨rfl,H⟩;refine EV.regionEnd (EV.inBlockC (EV.inLoopC (EV.seqC (EV.regionC (ops:=CO) ?_))));rw[show yo CO.size = [0,1] from iI];refine EV.stop (C (λi=>([y 0,y 1,y 2,y 3,y 4,y 5,y 6,y 7,y 8,x,y 10,y 11,y 12,y 13,y 14,y 15,y 16,y 17,js #[x,gd km],gd km,x,.func (.func f) #[] cap,x,js #[],y 24,y 25,y 26,y 27,y 28,y 29]:gZ).getD i qp) Z H ?_);intro a l;have T:a<18:=Aa
 match a,T with
 |0,_|1,_|2,_|3,_|4,_|5,_|6,_|7,_|8,_|10,_|11,_|12,_|13,_|14,_|15,_|16,_|17,_=>rfl
 |9,_=>omega
set_option maxRecDepth 100000 in
def Abv(N y)(L:y 17=.chan (lj N))(j w):stepG y7 km (Gb j z y) w=.comm (core (Gb j z y)) #[rcase N (qh jh 0 0)] km (.recv km) w #[]:=by
 unfold Gb;simp only[CO,UU,Vo,J7,Code.opsOf,Code.one,Code.two,Code.core,f46,aY,Ke,L];rw[stepG_comm iI Ac Ae (cases:=#[rcase N (qh jh 0 0)]) (blocking:=km) (shape:=.recv km) (w':=w) (by simp[go_sem,execOp,rcase,euo,qt0,zeroValue37])];rw[listed_nil (by simp[go_sem,execOp,euo,qt0,zeroValue37])]
 rfl
def Ama(C sent):Terms (RA C sent) (DA C):=⟨λ_ _ _ h k=>h.trans k,λw=>⟨.refl _ _,.refl _,iI,iI,Ad⟩⟩
set_option maxRecDepth 100000 in
theorem Aqh{C:BR}(O:C.Ok)(H:C.P=y7)(v:C.ty=128)(sent:List (C.β×uo))(y:Nat->uo)(I:y 8=pdw (lj ⟨C.Wg,0,jh⟩))(L:y 17=.chan (lj C.Ch)){w:gk}(W:D9 C.ty C.Wg w)(m:∀R B,R.status=.running->Sc C.P (Hq z fun i=>if i=18 then js #[qh jh 0 0,gd sd] else if i=19 then gd sd else if i=24 then js #[] else y i) R B->C.PostA sent R B) :
  ARc C sent (Gb [.code Ku] z y) w:=by
 obtain⟨P,Shun,k,Wg,Ch,ty,LA,LB,KA,KB,β,Msg,FB,PostA⟩:=C
 simp only at H v I L W
 subst H v
 have T:=Ama { P:=y7,Shun,k,Wg,Ch,ty:=128,LA,LB,KA,KB,β,Msg,FB,PostA } sent
 refine⟨rfl,qh jh 0 0,Abv Ch y L _ w,fun d b=>?_⟩
 have Y:=b.wg W
 clear b
 refine⟨100+8,?_⟩
 unfold Gb
 rw [Ws (o:=CO[0]' Ae) rfl]
 simp only [CO,EW,UU,Vo,J7,Code.opsOf,Code.one,Code.two,Code.core,f46,aY,Ke]
 refine Q6 rfl Ac Ae fun K b F p=>?_
 replace Y:=b.wg Y
 clear b
 try walk_nrm
 go_simp
 refine p _ _ ⟨by co_quiet T,?_⟩
 clear p F
 try walk_nrm
 refine Hns ?_
 refine Pzo ?_
 refine Dp T rfl (fun w=>stepG_cond (t:=sd) rfl) ?_
 refine Dp T rfl (fun w=>stepG_exit (k':=[.code Ku]) rfl) ?_
 rw [show Ku=.seq (.region 11 VD sd) HJ from rfl]
 refine Pzo ?_
 refine Whj ?_
 rw [show yo VD.size = [0] from rfl]
 refine Goes.step rfl fun d b=>goes_call (f:=65) (fn:=Lib.waitFn Tryz.link) (c:=Y8 Tryz.link) rfl Ac Ae rfl Tryz.wgLib.f_wait Ac Ac ⟨T.idle _,?_⟩
 replace Y:=b.wg Y
 clear b
 rw [show Array.map (euo ({ tmps:=#[y 0,y 1,y 2,y 3,y 4,y 5,y 6,y 7,pdw (lj ⟨Wg,0,jh⟩),y 9,y 10,y 11,y 12,y 13,y 14,y 15,y 16,.chan (lj Ch),js #[qh jh 0 0,gd sd],gd sd,y 20,y 21,y 22,y 23,y 24,y 25,y 26,y 27,y 28,y 29],defers:=[] }:Act)) #[Operand.tmp 8]=#[pdw (lj ⟨Wg,0,jh⟩)] by simp [euo]]
 refine Ss (fun _ _ _ h=>D0.da _ h) ?_
 refine Apj (C:={ P:=y7,Shun,k,Wg,Ch,ty:=128,LA,LB,KA,KB,β,Msg,FB,PostA }) (sent:=sent) O Tryz.wgLib rfl (b₀:=base 46) (a₀:={ tmps:=#[y 0,y 1,y 2,y 3,y 4,y 5,y 6,y 7,pdw (lj ⟨Wg,0,jh⟩),y 9,y 10,y 11,y 12,y 13,y 14,y 15,y 16,.chan (lj Ch),js #[qh jh 0 0,gd sd],gd sd,y 20,y 21,y 22,y 23,y 24,y 25,y 26,y 27,y 28,y 29],defers:=[] }) (ops₀:=VD) (i₀:=0) (rest₀:=[]) (k₀:=[.code HJ]) (cs:=z) _ Y (fun R a E s X=>?_)
 obtain⟨nn,X⟩:=X
 refine m R a s ⟨rfl,nn,Fv (fun _ _ h=>h) (fun _ _ _ h=>h) (fun x _ Z=>Z.trans ?_) X⟩
 unfold Hq Ke
 simp only [I,L]
 rfl
end
section
variable {L:Mw} {p m low:Nat} {x:Nat->Nat} {r:Z} {k Y:gW} {a:(Nat->Prop)->vr->Z->Prop}
structure Yk(c b f)(cap:gY)(p3)(y:hQ):Prop where
 h2:y 2=.func (.func f) #[] cap
 h3:y 3=p3
 h8:y 8=iB c
 h17:y 17=.chan (lj b)
def JS(c b:Nat)(f:x8)(cap:gY)(p3:uo)(z:List qq)(I:List (gT)->Z->Prop)(g:vr)(v:Z):Prop:=∃y,g=Gb [.code Ku] z y/\Yk c b f cap p3 y/\I [] v
def Am2(c b:Nat)(f:x8)(cap:gY)(p3:uo)(z:List qq)(I:List (gT)->Z->Prop)(g:vr)(v:Z):Prop:=∃y,g=Hq z y/\Yk c b f cap p3 y/\I [] v
def Aat(k:gW)(f:x8)(cap:gY)(I:List (gT)->Z->Prop):Prop:=
 ∀b rest v,I (b::rest) v->∀Stop,Bg N km k Stop f (#[qh (lj (iC v.1.size)) (iK b) (iK b)]++cap) { v with heap:=v.1.push (oh (rowOf b) 5 (0,0)) } λr v'=>r=js #[]/\I rest v'
def scA{I e}{d:List (gT)->gk->Prop}(o:∀Z v i,d Z v->d Z (World.at v i))(H:Aat k f I d):∀(F:gR) y v,Yk c b f I e y->d F v ->
  ScA (JQ L b c K j p m x E r low k Y (JS c b f I e z d) a) (F.map rowOf) (Gb [.code Ku] z y) v:=by
 have l:∀y,Yk c b f I e y->∃q,(JQ L b c K j p m x E r low k Y (JS c b f I e z d) a).AtRecv q (Gb [.code Ku] z y):=λy U=>by
  refine⟨qh jh 0 0,iI,λn w t=>?_⟩;rw[Mr];exact Abv _ _ (by rw[U.4];simp[Az]) _ w
 intro F
 induction F with
 |nil=>exact λy v U V=>⟨l y U,y,iI,U,V⟩
 |cons h s O=>
  intro y v U V;refine⟨l y U,?_⟩
  show EV N km k _ (mz (core (Gb [.code Ku] z y)) (js #[qh (lj (iC v.1.size)) (rowOf h).size (rowOf h).size,gd km])) _;rw[AU];refine Aou y f I _ U.h2 (H h s v V _) λW u Q g i=>?_;exact O W _ ⟨(g 2 Aa).trans U.h2,(g 3 Aa).trans U.2,(g 8 Aa).trans U.h8,(g 17 Aa).trans U.4⟩ (o _ _ _ Q)
noncomputable def Acn{Bs u0 sb co bb pg q t f cap p3}{I:List (gT)->Z->Prop}(hI:∀ms v d,I ms v->I ms (World.at v d))(O:(JQ L b c K j p m x E r low k Y (JS c b f cap p3 z I) (TQ Y Bs u0 pg sb co bb j K q t)).Ok):Vl (JQ L b c K j p m x E r low k Y (JS c b f cap p3 z I) (TQ Y Bs u0 pg sb co bb j K q t)) where
 EndA:=Am2 c b f cap p3 z I
 EndB:=TP Y Bs u0 pg sb co bb q t
 atA:=λg v d⟨y,h1,h2,h3⟩=>⟨y,h1,h2,hI _ _ _ h3⟩
 atB:=λS v d h=>Zg d h
 finA:=λg v⟨y,h1,h2,h3⟩=>by
  subst h1;refine⟨Hq z λi=>if i=18 then js #[qh jh 0 0,gd sd] else if i=19 then gd sd else if i=24 then js #[] else y i,⟨_,iI,⟨h2.h2,h2.2,h2.h8,h2.4⟩,h3⟩,λM hM=>?_,λKB w0' n w hG hc hg hw=>?_⟩
  ·rw[Mr]at hM;rw[U5];have e1:z.map (Bj (.up M))=z:=by
    have:=aJ Goroutine.callers hM;exact this
   have e2:(Ke λi=>Az (.up M) (y i))=Ke y:=by
    have:=aJ (λg:vr=>g.frame.tmps) hM;have h':(Ke λi=>Az (.up M) (y i)).tmps=(Ke y).tmps:=this;have hd:(Ke λi=>Az (.up M) (y i)).defers=(Ke y).defers:=iI;cases ha:(Ke λi=>Az (.up M) (y i));cases hb:Ke y;rw[ha,hb]at h' hd;simp only at h' hd;rw[h',hd]
   simp only[Ke,Act.mk.injEq,fV,dP,and_true,true_and]at e2;unfold Hq;rw[e1]
   congr 1
   congr 1
   simp[Ke,e2,Az]
  ·rw[Mr,U5];refine Aqh (O.cfg KB w0' _) iI iI S1 _ (by rw[h2.h8];simp[Az,Ei,hg];rfl) (by rw[h2.4];simp[Az];exact hc) hw λg' w' hr hb=>?_;refine cast ?_ hb
   congr 2
   funext i
   split
   ·simp[Az]
   ·split
    ·simp[Az]
    ·split
     ·simp[Az]
     ·rfl
 finB:=λS g v⟨⟨T,h1⟩,h2⟩=>⟨h2,λn w hG hc hg hw=>by
  subst h1;rw[Aeu,show sh n j=L.Wg from hg,show sh n K=L.Ch from hc];exact Aq4 O.neq _ w hw⟩
end
abbrev B8(db tb wm sm:Nat)(last:Int)(down:Bool):Array uo:=#[iB db,iB tb,.map (lj wm),.map (lj sm),iE last,gd down]
def Jb(rb:Nat)(rc:gY)(rt:q9)(svb:Nat)(vc:gY)(w:Z):Prop:=w.1[rb]?=lj (oh rc rt)/\w.1[svb]?=lj (oh vc 95)
def Jb.at{rb rc rt svb vc}(w d)(h:Jb rb rc rt svb vc w):Jb rb rc rt svb vc (w.at d):=h
def At3(rb:Nat)(rc:gY)(rt:q9)(svb:Nat)(vc:gY)(sb:Nat)(v:Int)(w:Z):Prop:=Jb rb rc rt svb vc w/\w.cell? (iD sb 3)=lj (iE v)
def At3.at{rb rc rt svb vc sb v}(w d)(h:At3 rb rc rt svb vc sb v w):At3 rb rc rt svb vc sb v (w.at d):=h
def Ax.keep{w}(h:Ax w B X){b o}(D:w.1[b]?=lj o)(Z:¬X b):=(h.block b (ltOf D) Z).trans D
section
variable {G:Nat->uo×uo}
variable {z:gX} {J:gW} {sn a:Int} {t:uo} {b:gT}
def CG(m z e:Int):gT:=be (be m 4++be z 8++be e 4).length 4++(be m 4++be z 8++be e 4)
def N5(m z e):(CG m z e).length=20:=by simp[CG,be_length]
def Ck.sim{a t num r}(h:Ck u a t num r)(s:X4 Bs u L)(C:¬Bs a)(J:¬Bs t):Ck L a t num r:=⟨(s.same C).trans h.blk,h.map.of_block (s.same J)⟩
def Ck.kx{X a t num r}(h:Ck u a t num r)(E:Ax u O X)(C:¬X a)(J:¬X t):Ck O a t num r:=⟨(E.block _ (ltOf h.blk) C).trans h.blk,h.map.of_block (E.block _ h.map.lt J)⟩
def Ck.at{a t num r}(h:Ck u a t num r)(d):Ck (u.at d) a t num r:=⟨h.blk,h.map.of_block iI⟩
def Told.at(h:Told G J Bs u O sb sn a en t b l)(d):Told G J Bs u (O.at d) sb sn a en t b l:=⟨h.K.at d,h.W.at d,let⟨o,c,e⟩:=h.S;⟨o,c.at d,e⟩,h.4⟩
def Told.from{P}(h:Told G J Bs u O sb sn a en t b l)(E:Ax P u iH)(q:sb<iL P.1):Told G J Bs P O sb sn a en t b l:=
 ⟨(E.mono λ_ h=>h.elim).trans h.K,h.W,let⟨o,c,d⟩:=h.S;⟨o,c,λg e=>(d g e).imp id λh=>aE E.size h⟩,λk f B C i T=>h.4 k f B ((E.block sb q λh=>h).trans C) i T⟩
structure GF(Bs:gV)(u:gk)(svb db tb mb wm sm:Nat)(last down num ns):Prop where
 hv:u.1[svb]?=lj (oh (B8 db tb wm sm last down) 95)
 nv:¬Bs svb
 ht:Ck u tb mb num ns
 nt:¬Bs tb
 nm:¬Bs mb
 z1:-9223372036854775808<=num
 z2:num<=9223372036854775807
def VI(H:It h z)(C:Cx z y J Bs u)(S:Gi G J Bs u sb sn a en t b)(av:iK b<=10000000000){tb O g num r}(V:GF Bs u svb db tb c M sm O g num r)(aa:t.ownBlock≠lj svb)(kind B p o n K k I)(ad:-2147483648<=B)(ai:B<=2147483647)(ar:-2147483648<=I)(au:I<=2147483647):Bg y7 km J F 159 #[iB svb,iB sb,J4 kind B p o n K k,iE I] u λx u'=>x=js #[]/\Told G J Bs u u' sb sn a en t b (CG B num I):=by
 have Ib:=S.lt;apply Bl func159 Ac iI (R:=λ_=>js #[]) (λ_ _=>ksi Ac _ _ _) (λ_ _=>jil Ac _ _);simp only[ntmps159,na,Nat.reduceAdd,Nat.reduceSub];refine Jp3 λu1 X ae Y=>?_;have a6:=X.keep V.1 id;have nr:¬Bs u.1.size:=λZ=>by have:=C.W.lt Z;omega
 have N:=Jb.at (rb:=iL u.1) (rc:=A5 kind B p o n K k) (rt:=131) (svb:=svb) (vc:=B8 db tb M sm O g);refine Em (I:=Jb u.1.size (A5 kind B p o n K k) 131 svb (B8 db tb M sm O g)) Ac λQ=>?_;have T:∀(P:Act)(q:gk)(o:Nat),((uz7=uz7∨uz7=Exit.ret)/\P.defers = []/\True/\Told G J Bs u q sb sn a en t b (CG B num I))->((uz7=uz7∨uz7=Exit.ret)/\P.defers = []/\True/\Told G J Bs u (q.at o) sb sn a en t b (CG B num I)):=λP q o⟨R,E,a8,h4⟩=>⟨R,E,a8,h4.at o⟩;have w:Jb u.1.size (A5 kind B p o n K k) 131 svb (B8 db tb M sm O g) (u1.at Q):=⟨Y,a6⟩;apply A9.tp 0 N T w;walk_nrm;apply A9.tp 2 N T w;walk_nrm;apply A9.tp 3 N T w;walk_nrm;apply A9.tp 4 N T w;walk_nrm;apply A9.tp 7 N T w;walk_nrm;apply A9.tl 5 N T w (λq (W:Jb _ _ _ _ _ q)=>(cellOf (j:=1) W.2 iI:q.cell? (iD svb 1)=lj (iB tb))) (λZ=>V.nv (C.W.2 _ Z));walk_nrm;refine A9.take (i:=1) (x:=(J4 kind B p o n K k)) N T iI Ab Ab Ab (Gj (S:=env Lv) Ac (B7 (fn:=0) Ab) (A6 _ _) ?_) w ?_
 ·intro q W;have ⟨c0,c1,c2,c3,c4,c5,c6⟩:=M4 W.1 iI;exact X0r
 walk_nrm;refine Ca (i:=6) (Gg (f:=42) (args:=#[iB tb]) Ae (ae.at Q) (X:=λ_=>False) (R:=λx _=>x=iE num) (λ_ _ Z=>Z) λd l=>?_) Ab iI Ac iI Af ?_
 ·exact(Kb d tb c num r (((V.ht.kx X id id).at Q).sim l V.4 V.nm)).mono λm e Z=>⟨⟨_,Z.1,iI⟩,by rw[Z.2];exact Ax.refl _ _⟩
 rintro x a1⟨j,U,L2,az,b5,rfl⟩;have A:Ax u a1 iH:=(X.at Q).trans j;refine⟨⟨j.keep Y id,j.keep a6 id⟩,?_⟩;walk_nrm;refine Ca (i:=8) (Gg (f:=187) (args:=#[J4 kind B p o n K k,iE num,iE I]) Ae U (X:=λ_=>False) (R:=λx e=>e.ownsRow a1.1.size 5 1 x (CG B num I).length (A4 (CG B num I))) (λ_ _ Z=>Z) λd l=>?_) Ab iI Ac iI Af ?_
 ·have D:=(C.kx A U (λ_ Z=>Z.elim)).glob l;refine(XI H d D.tabs D.table kind B p o n K k num I ad ai V.6 V.z2 ar au).mono λm e Z=>?_;exact Icn
 rintro f ah⟨L,a7,aj,ab,ak,af⟩;have v:Ax u ah iH:=A.trans L;refine⟨⟨L.keep (j.keep Y id) id,L.keep (j.keep a6 id) id⟩,?_⟩;walk_nrm;obtain⟨an,ao⟩:=Qj a7 (λi hi=>U.lt hi) ab af;apply Ca (i:=9) (OG a7 (S.kx v (λZ=>Z) λ_ _ Z=>Z) f (CG B num I) (by rw[N5];decide) (by rw[N5];omega) an λaq hg=>(ao aq hg).1) Ab iI Ac iI Af;rintro x u4⟨rfl,s⟩;have al:=s.from v Ib;refine⟨⟨s.K.keep (L.keep (j.keep Y id) id) ?_,s.K.keep (L.keep (j.keep a6 id) id) ?_⟩,?_⟩
 ·rintro(Z|Z)
  ·omega
  ·have:=Cm S.own Z;omega
 ·rintro(Z|Z)
  ·exact V.nv (Z▸S.inb)
  ·exact aa Z
 walk_nrm;exact A9.all Ab ⟨r7 iI,iI,trivial,al⟩ _
end
section
variable {G:Nat->uo×uo}
variable {z:gX} {J:gW} {c:gV} {H:Int} {t:uo} {b:gT}
abbrev VsB(c:gV)(u:Z)(l:List Orch.V)(lv:uo):Prop:=D8 u (λb=>b<iL u.1/\¬c b) l lv
def VsB.sim{l}(h:VsB c u l a)(s:X4 c u L):D8 L (λb=>b<iL L.1) l a:=
 D8.congr (λb D=>by rw[s.size];exact D.1) (λb D=>s.same D.2) h
def VsB.kx{X l}(h:VsB c u l a)(E:Ax u O X)(t:∀b,X b->b<iL u.1->c b):VsB c O l a:=
 D8.congr (λb D=>⟨aA D.1 E.size,D.2⟩) (λb D=>E.block b D.1 λZ=>D.2 (t b Z D.1)) h
def Zr(body:gT):gT:=be (iK body) 4++body
def Q4(a):(Zr a).length=4+iK a:=by rw[Zr,aK,be_length]
def Om(an:It h z)(C:Cx z y J c u)(S:Gi G J c u sb H 1 en t b)(b6:iK b<=10000000000){tb a O A num r}(V:GF c u svb db tb a M sm O A num r)(aa:t.ownBlock≠lj svb)(kind)(ar:kind<8)(B p o n K k)(ai:gU)(au:∀d,X1 z y d->d.cell? ⟨3,kind * 3+1,jh⟩=lj (pc ai))(l lv)(av:l = []->lv=qh jh 0 0)(aw:iK l<=100)(ax:VsB c u l lv)(ty)(hp:parse ai.data.toList=lj ty)(g)(hq:put h 9 [] ty (.mk 0 iG ([Orch.num B,Orch.num num,Orch.num 0]++l))=lj g)(b7:0<iK g)(ay:iK g<=1000):Bg y7 km J F 122 #[iB svb,iB sb,J4 kind B p o n K k,lv] u λx u'=>x=js #[]/\Told G J c u u' sb H 1 en t b (Zr g):=by
 have Ib:=S.lt;apply Bl func122 Ac iI (R:=λ_=>js #[]) (λ_ _=>ksi Ac _ _ _) (λ_ _=>jil Ac _ _);simp only[ntmps122,na,Nat.reduceAdd,Nat.reduceSub];refine Jp3 λu1 X ae Y=>?_;have a6:=X.keep V.1 id;have nr:¬c u.1.size:=λZ=>by have:=C.W.lt Z;omega
 have N:=At3.at (rb:=iL u.1) (rc:=A5 kind B p o n K k) (rt:=131) (svb:=svb) (vc:=B8 db tb M sm O A) (sb:=sb) (v:=1);refine Em (I:=At3 u.1.size (A5 kind B p o n K k) 131 svb (B8 db tb M sm O A) sb 1) Ac λQ=>?_;have T:∀(P:Act)(q:gk)(o:Nat),((uz7=uz7∨uz7=Exit.ret)/\P.defers = []/\True/\Told G J c u q sb H 1 en t b (Zr g))->((uz7=uz7∨uz7=Exit.ret)/\P.defers = []/\True/\Told G J c u (q.at o) sb H 1 en t b (Zr g)):=λP q o⟨R,E,a8,h4⟩=>⟨R,E,a8,h4.at o⟩;have w:At3 u.1.size (A5 kind B p o n K k) 131 svb (B8 db tb M sm O A) sb 1 (u1.at Q):=⟨⟨Y,a6⟩,(S.kx X (λZ=>Z) λ_ _ Z=>Z).cell.2.1⟩;refine Eqy ?_;refine A9.tp 3 N T w ?_;walk_nrm;refine A9.tp 6 N T w ?_;walk_nrm;refine A9.tp 7 N T w ?_;walk_nrm;refine A9.tp 8 N T w ?_;walk_nrm;refine A9.tp 11 N T w ?_;walk_nrm;refine A9.tl 4 N T w (λq (W:At3 _ _ _ _ _ _ _ q)=>(W.2:q.cell? (iD sb 3)=lj (iE 1))) (S.j 3 Ae Ae) ?_;walk_nrm;refine A9.tl 9 N T w (λq (W:At3 _ _ _ _ _ _ _ q)=>(cellOf (j:=1) W.1.2 iI:q.cell? (iD svb 1)=lj (iB tb))) (λZ=>V.nv (C.W.2 _ Z)) ?_;walk_nrm;refine A9.take (i:=5) (x:=(J4 kind B p o n K k)) N T iI Ab Ab Ab (Gj (S:=env Lv) Ac (B7 (fn:=0) Ab) (A6 _ _) ?_) w ?_
 ·intro q W;have ⟨c0,c1,c2,c3,c4,c5,c6⟩:=M4 W.1.1 iI;exact X0r
 walk_nrm;refine Ca (i:=10) (Gg (f:=42) (args:=#[iB tb]) Ae (ae.at Q) (X:=λ_=>False) (R:=λx _=>x=iE num) (λ_ _ Z=>Z) λd s=>?_) Ab iI Ac iI Af ?_
 ·exact(Kb d tb a num r (((V.ht.kx X id id).at Q).sim s V.4 V.nm)).mono λm e Z=>⟨⟨_,Z.1,iI⟩,by rw[Z.2];exact Ax.refl _ _⟩
 rintro x a1⟨j,U,L2,az,b5,rfl⟩;have I:Ax u a1 iH:=(X.at Q).trans j;have S2:=S.kx I (λZ=>Z) λ_ _ Z=>Z;refine⟨⟨⟨j.keep Y id,j.keep a6 id⟩,S2.cell.2.1⟩,?_⟩;walk_nrm;refine Ca (i:=12) (Gg (f:=171) (args:=#[iE 1,J4 kind B p o n K k,iE num,lv]) Ae U (X:=λ_=>False) (R:=λx e=>e.ownsRow a1.1.size 5 1 x (Zr g).length (A4 (Zr g))) (λ_ _ Z=>Z) λd s=>?_) Ab iI Ac iI Af ?_
 ·have Gv:=(C.kx I U (λ_ Z=>Z.elim)).glob s;refine(PI an d Gv.tabs Gv.table kind ar B p o n K k num ai (au d Gv) (by have:=Gv.size;have:=C.g8;omega) l lv av aw ((ax.kx I λ_ Z=>Z.elim).sim s) ty hp g hq Aa ay).mono λm e Z=>?_;exact Boo
 rintro f ah⟨L,a7,aj,ab,ak,af⟩;have v:Ax u ah iH:=I.trans L;have S3:=S.kx v (λZ=>Z) λ_ _ Z=>Z;refine⟨⟨⟨L.keep (j.keep Y id) id,L.keep (j.keep a6 id) id⟩,S3.cell.2.1⟩,?_⟩;walk_nrm;obtain⟨ao,aq⟩:=Qj a7 (λi hi=>U.lt hi) ab af;have b8:=Q4 g;refine Ca (i:=13) (OG a7 S3 f (Zr g) Aa Aa ao λad hg=>(aq ad hg).1) Ab iI Ac iI Af ?_;rintro x bf⟨rfl,D⟩;have al:=D.from v Ib;obtain⟨b9,S4,_⟩:=D.S;refine⟨⟨⟨D.K.keep (L.keep (j.keep Y id) id) ?_,D.K.keep (L.keep (j.keep a6 id) id) ?_⟩,S4.cell.2.1⟩,?_⟩
 ·rintro(Z|Z)
  ·omega
  ·have:=Cm S.own Z;omega
 ·rintro(Z|Z)
  ·exact V.nv (Z▸S.inb)
  ·exact aa Z
 walk_nrm;exact A9.all Ab ⟨r7 iI,iI,trivial,al⟩ _
end
def call62(W B Cv Bv:Nat):Deferred:={ target:=.fn (.func 62) #[iB W,iB B,iB Cv,iB Bv],args:=#[] }
def Aj1(W B J Y w):stepG N sd (born N (call62 W B J Y)) w =
  .go (G ((baseD 62).at ⟨#[iB W,iB B,iB J,iB Y,qp,qp,qp,qp,qp],[]⟩ [.code GJ]) [bot]) w #[]:=by
 simp[born,call62,stepG,unwind,callDeferred,invoke,callFunc,func62,f62,seen,GStep.after,G,Frame.enter,Frame.at,baseD,bot,GJ]
structure IV(B Cv Bv Ch sb co bv)(w:gk):Prop where
 b:w.cell? (iC B)=lj (.chan (lj Ch))
 c:w.cell? (iC Cv)=lj (pdw (lj (iD sb co)))
 v:w.cell? (iC Bv)=lj bv
 lb:B<iL w.1
 lc:Cv<iL w.1
 lv:Bv<iL w.1
def OI(C:Mw):Terms C.RoR C.DRo:=⟨λ_ _ _ h k=>h.trans k,λw=>⟨iI,Ad⟩⟩
noncomputable def T62(W B Cv Bv Ch sb co:Nat)(bv:uo):Array uo:=#[iB W,iB B,iB Cv,iB Bv,.chan (lj Ch),pdw (lj (iD sb co)),bv,.chan (lj Ch),qp]
noncomputable def GM(W B Cv Bv Ch sb co:Nat)(bv:uo):vr:=G ((base 64).at (Dl (Jk sb co) bv (.chan (lj Ch)) qp (λ_=>qp)) [.code Iz]) [QM (T62 W B Cv Bv Ch sb co bv) W Ch,bot]
section
variable {C:Mw}
set_option maxRecDepth 100000 in
def Aha{q B Cv Bv Ch sb co}{ba:hU}{bl bc}(Z:∀i,i=B∨i=Cv∨i=Bv->C.5 (.cell (iC i)))(hF:IV B Cv Bv Ch sb co (qh ba bl bc) w):Goes N sd C.RoR C.DRo (λg _=>g=GM q B Cv Bv Ch sb co (qh ba bl bc)) 15 (born N (call62 q B Cv Bv)) w:=by
 have T:=OI C;have c:∀{w d:gk},IV B Cv Bv Ch sb co (qh ba bl bc) w->C.RoR w d->IV B Cv Bv Ch sb co (qh ba bl bc) d:=λh r=>
  ⟨(r.cell _ (Z _ (r7 iI)) h.lb).trans h.b,(r.cell _ (Z _ (kr (r7 iI))) h.lc).trans h.c,(r.cell _ (Z _ (kr (kr iI))) h.lv).trans h.v,aA h.lb r.size,aA h.lc r.size,aA h.lv r.size⟩
 apply Dp T iI (λw=>Aj1 _ _ _ _ w);simp only[GJ,f62,aY];refine Pzo ?_;refine Maa ?_;apply Dp T iI (λw=>stepG_defer iI Ac Ae iI);walk_nrm;refine Hns ?_;refine Pzo ?_;refine Maa ?_;refine Q6 iI Ac Ae λK b F a=>?_;replace hF:=c hF b;clear b;have p:=hF;have M:K.cell? (iC B)=lj (.chan (lj Ch)):=p.b;go_simp;refine a _ _ ⟨⟨iI,?_⟩,?_⟩
 ·co_evs (exact⟨_,iI,Z _ (r7 iI),p.lb⟩)
 clear a F M
 try walk_nrm
 refine Dp T iI (λw=>Vc (c:=Ch) iI Ac Ae iI iI) ?_;walk_nrm;refine Hns ?_;refine Maa ?_;clear p;refine Q6 iI Ac Ae λK b F a=>?_;replace hF:=c hF b;clear b;have p:=hF;have M:K.cell? (iC Cv)=lj (pdw (lj (iD sb co))):=p.c;go_simp;refine a _ _ ⟨⟨iI,?_⟩,?_⟩
 ·co_evs (exact⟨_,iI,Z _ (kr (r7 iI)),p.lc⟩)
 clear a F M p
 try walk_nrm
 refine Q6 iI Ac Ae λK b F a=>?_;replace hF:=c hF b;clear b;have p:=hF;have M:K.cell? (iC Bv)=lj (qh ba bl bc):=p.v;go_simp;refine a _ _ ⟨⟨iI,?_⟩,?_⟩
 ·co_evs (exact⟨_,iI,Z _ (kr (kr iI)),p.lv⟩)
 clear a F M p
 try walk_nrm
 refine Q6 iI Ac Ae λK b F a=>?_;replace hF:=c hF b;clear b;have p:=hF;have M:K.cell? (iC B)=lj (.chan (lj Ch)):=p.b;go_simp;refine a _ _ ⟨⟨iI,?_⟩,?_⟩
 ·co_evs (exact⟨_,iI,Z _ (r7 iI),p.lb⟩)
 clear a F M p
 try walk_nrm
 refine Goes.step iI λK b=>goes_call iI Ac Ae iI func64 Ac iI ⟨T.idle _,?_⟩;replace hF:=c hF b;clear b;walk_nrm;simp only[ntmps64,cG,bC,cM,bD,aV,aW,Nat.reduceAdd,Nat.reduceSub,dE,dO,eJ,dV,bW,cK];intro e b
 rfl
noncomputable def r6:sf:=Code.one (Code.two (Code.two (Code.two (Code.two (Code.two J7)))))
noncomputable def MO:Array ox:=Code.opsOf r6
noncomputable def Ad0:Array ox:=Code.opsOf (Code.one (Code.one Vo))
noncomputable def GG(z:List qq)(y:hQ):vr:=G ((base 46).at (Ke y) [.inRegion MO [],.code Vo]) z
set_option maxRecDepth 100000 in
def Akz{z Bx Ch}(Z:C.5 (.cell (iC Bx)))(y)(a:y 7=iB Bx)(M:w.cell? (iC Bx)=lj (.chan (lj Ch)))(Y:Bx<iL w.1):Goes N km C.RoR C.DRo (λg _=>g=Gb [.code Ku] z λi=>if i=17 then .chan (lj Ch) else y i) 10 (GG z y) w:=by
 have T:=OI C;have c:w.cell? (iC Bx)=lj (.chan (lj Ch))/\Bx<iL w.1:=⟨M,Y⟩;clear M Y;refine Hns ?_;rw[show Vo=.seq (.seq (.region 7 Ad0 sd) (.block 0 (.loop (.seq (.region 8 CO sd) EW)))) Ku from iI]
 iterate 2(refine Pzo ?_)
 refine Whj ?_;refine Q6 (o:=Ad0[0]' Ae) iI Ac Ae λK b F p=>?_;replace c:K.cell? (iC Bx)=lj (.chan (lj Ch))/\Bx<iL K.1:=⟨(b.cell _ Z c.2).trans c.1,aA c.2 b.size⟩;have M:=c.1;simp only[Ad0,Code.opsOf,Vo,J7,Code.core,Code.one,Code.two,f46,aY,Ke,a]at p⊢;go_simp;refine p _ _ ⟨⟨iI,?_⟩,?_⟩
 ·co_evs (grind)
 clear p F M
 try walk_nrm
 refine Hns ?_;apply Dp T iI (λw=>stepG_block);apply Dp T iI (λw=>stepG_loop);refine Pzo ?_;refine Whj ?_;rw[show yo CO.size = [0,1] from iI];intro d b;unfold Gb Ke;simp only[a]
 rfl
end
end Go.Proofs.YtcbilgmfdgpomaaGreatDoor
