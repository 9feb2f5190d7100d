import Derived.Test.YtjoblhlkfmeckaaGreatDoorQ21
import Derived.Lib.ConvBytes
import Derived.Test.YtjoblhlkfmeckaaGreatDoorQ15
set_option maxHeartbeats 4000000
set_option maxRecDepth 8000
set_option linter.unusedVariables false
set_option linter.unusedSimpArgs false
open Option renaming some → lp,none → od
open Go renaming World → qq,Value → tj,heap_alloc_new → tw,Goroutine → gq
open Go.Proofs.Tryz renaming prog → ly
open Bool renaming false → vp,true → s7
open Go.Exit renaming normal → kr
open List renaming append_of_mem → wc
open Go.Value renaming int → rl,string → pt,pointer → om,slice → cf,bool → gf
open Go.Obj renaming cells → ye
open Go.IntKind renaming i64 → tz
open Or renaming inl → af,inr → o5
open Go.Proofs.Tryz Orch
theorem M5s{p q:Prop}(k:q)(h:Hd q->p:=by
 intro kz
 refine Br Tryz.func71 Ac rfl (R:=fun tmps=>tmps.getD 6 undef) (fun _ _=>results_tmp Ac _ _ _) (fun _ _=>events_results_tmp Ac _ _) ?_
 exact kz.1):p:=h ⟨k⟩
theorem Qm0{p q:Prop}(k:q)(h:Hd q->p:=by
 intro kz
 refine Iv (x:=.string ((⟨#[]⟩:ByteArray)++data)) rfl Ac (fun w=>by have hb:data.size<=9223372036854775807:=Ab;walk_nrm;go_simp;try omega) (fun w=>by walk_nrm;go_simp;exact CI _ _ w) ?_
 exact kz.1):p:=h ⟨k⟩
theorem V02{p q:Prop}(k:q)(h:Hd q->p:=by
 intro kz
 refine Bq (cellOf (j:=0) hS3 rfl) (jd 0) (ltOf hS3) ?_;walk_nrm
 exact kz.1):p:=h ⟨k⟩
theorem Q47{p q:Prop}(k:q)(h:Hd q->p:=by
 intro kz
 refine Bq (cellOf (j:=0) T3.blk rfl) (jk 0) (ltOf T3.blk) ?_;walk_nrm
 exact kz.1):p:=h ⟨k⟩
theorem L46{p q:Prop}(k:q)(h:Hd q->p:=by
 intro kz
 refine Bq (cellOf (j:=0) hD rfl) (jd 0) (ltOf hD) ?_;walk_nrm
 exact kz.1):p:=h ⟨k⟩
theorem Oce{p q:Prop}(k:q)(h:Hd q->p:=by
 intro kz
 refine A6.tp 8 hI (fun _ _ d h=>A8 h d) hS ?_;walk_nrm
 refine A6.tp 9 hI (fun _ _ d h=>A8 h d) hS ?_;walk_nrm
 exact kz.1):p:=h ⟨k⟩
theorem Kmg{p q:Prop}(k:q)(h:Hd q->p:=by
 intro kz
 refine A6.tp 4 hI (fun _ _ d h=>A8 h d) hS ?_;walk_nrm
 refine A6.tp 5 hI (fun _ _ d h=>A8 h d) hS ?_;walk_nrm
 exact kz.1):p:=h ⟨k⟩
theorem Yit{p q:Prop}(k:q)(h:Hd q->p:=by
 intro kz
 walk_nrm
 refine A6.tp 15 hI (fun _ _ d h=>A8 h d) hS2 ?_;walk_nrm
 refine A6.tp 16 hI (fun _ _ d h=>A8 h d) hS2 ?_;walk_nrm
 exact kz.1):p:=h ⟨k⟩
theorem Bat{p q:Prop}(k:q)(h:Hd q->p:=by
 intro kz
 refine L46 ?_
 refine By (PY W K _ hK H.nk) rfl Ac rfl (by walk_nrm) ?_
 exact kz.1):p:=h ⟨k⟩
theorem O82{p q:Prop}(k:q)(h:Hd q->p:=by
 intro kz
 refine A6.tp 0 hI (fun _ _ d h=>A8 h d) hS ?_;walk_nrm
 refine A6.tp 1 hI (fun _ _ d h=>A8 h d) hS ?_;walk_nrm
 refine A6.tp 2 hI (fun _ _ d h=>A8 h d) hS ?_;walk_nrm
 exact kz.1):p:=h ⟨k⟩
theorem Jfh{p q:Prop}(k:q)(h:Hd q->p:=by
 intro kz
 refine Q47 ?_
 refine Ak ?_
 refine J75 ?_
 refine Ak ?_
 refine Bq (cellOf (j:=1) hg3 (cg 1 _ rfl)) (jg 1) (ltOf hg3) ?_;walk_nrm
 refine Ak ?_
 refine Qm0 ?_
 walk_nrm
 refine J75 ?_
 refine Ak ?_
 exact kz.1):p:=h ⟨k⟩
theorem Iu7{p:Prop}(h:p:=by
 refine V3 (i:=14) (S:=env Lv) (fn:=0) W1 Aa rfl Ac (Dp Aa) (Bg _ _) (R:=fun ov L'=>∃L,Cq Bs u1 L/\L'.ownsRow u1.heap.size 190 3 ov 1 [.string Iu,.string ⟨#[]⟩,.int .i64 0]/\Ar L L' (fun _=>False)) (fun L hs=>?_) ?_
 ·obtain⟨ov,w',hr,h1,h2⟩:=M3 L u.heap.size Iu ((hs.same W1.nf nr).trans B9)
  rw [hs.size] at h1
  refine⟨ov,w',.inl ?_,L,hs,h1,h2⟩
  walk_nrm
  unfold execOp
  simp only [resolve,invoke,builtin,Sem.run_bind,Sem.run_pure,Result.andThen_ok,dG,bY,dR]
  walk_nrm
  rw [hr]
  rfl
 rintro ov u2 L' hKept hSim ⟨L,hs,ho2',hX⟩
 have hn2:=hKept.nf W1.nf
 have K2:Ar u1 u2 (fun _=>False):=Ks W1.nf hs hKept hSim hX
 have W2:VW J Bs u2:=W1.kx (fun i hi=>hKept.keep i hi) hn2
 have ho2:u2.ownsRow u1.heap.size 190 3 ov 1 [.string Iu,.string ⟨#[]⟩,.int .i64 0]:=D8 ho2' fun g hg _=>(hSim.same hn2 fun hB=>by have:=W1.lt hB;omega).symm
 have hS2:BD D #[.pointer (some ⟨K,0,none⟩)] 54 u2:=K2.get hS1 id
 have hK2:=K2.get hK1 id
 refine⟨hS2,?_⟩
 obtain⟨_,⟨_,hz⟩|⟨g,cap,cur,rfl,hgl,hg2,_,_,Di,htk⟩⟩:=ho2
 ·omega
 have cg:∀(j:Nat) (x:Value),([.string Iu,.string ⟨#[]⟩,.int .i64 0]:List Value)[j]? = some x->cur[j]? = some x:=fun j x hx=>by
  have e1:(cur.toList.take (1 * 3))[j]? = some x:=by rw [htk];exact hx
  rw [cK (by have:=(aW.1 hx).1;simp at this;omega),dC] at e1
  exact e1
 have ng:¬Bs g:=fun h=>by have:=W1.lt h;omega
 have jg:∀k,¬J (.cell ⟨g,k,none⟩):=fun k h=>ng (W.ji.cell _ h)
 have hgK:g≠K:=fun h=>by have h1:=ltOf hK;have h2:=K01.size;omega
 have hgD:g≠D:=fun h=>by have h1:=ltOf hD;have h2:=K01.size;omega
 refine Yit ?_
 have T3:Bn u2 (u2.setCell ⟨K,0,none⟩ (.slice (some ⟨g,0,none⟩) 1 cap)) K #[.slice (some ⟨g,0,none⟩) 1 cap,.int .i64 (-1)] 52:=(Bn.refl hK2).set 0 _
 have W3:VW J Bs (u2.setCell ⟨K,0,none⟩ (.slice (some ⟨g,0,none⟩) 1 cap)):=W2.set T3 (NF.setCell W2.nf _ _)
 have hS3:BD D #[.pointer (some ⟨K,0,none⟩)] 54 (u2.setCell ⟨K,0,none⟩ (.slice (some ⟨g,0,none⟩) 1 cap)):=(T3.grown.block D (ltOf hS2) (fun h=>H.ne Ah)).trans hS2
 refine Jl (i:=17) (S:=env Lv) (fn:=0) (x:=undef) (v':=u2.setCell ⟨K,0,none⟩ (.slice (some ⟨g,0,none⟩) 1 cap)) hI (fun _ _ d h=>A8 h d) Aa rfl Ac (Dp Aa) (Bg _ _) (fun d=>.inr ⟨by have hc:(u2.at d).cell? ⟨K,0,none⟩=some (.slice none 0 0):=cellOf (j:=0) hK2 rfl;have hf:(u2.at d).frozen? ⟨K,0,none⟩=false:=Ay (W:=u2) (j:=0) hK2;walk_nrm;go_simp;first|done|rfl,rfl⟩) (fun d=>by have hc:(u2.at d).cell? ⟨K,0,none⟩=some (.slice none 0 0):=cellOf (j:=0) hK2 rfl;have hf:(u2.at d).frozen? ⟨K,0,none⟩=false:=Ay (W:=u2) (j:=0) hK2;walk_nrm;intro e he;simp [go_sem,hc,hf,events_store _ _ _ _ (Value.slice _ _ _) Mode.plain rfl,storedEv] at he;subst he;exact⟨jk 0,by rw [size_setCell];exact ltOf hK2⟩) hS3 ?_
 walk_nrm
 generalize u2.setCell ⟨K,0,none⟩ (.slice (some ⟨g,0,none⟩) 1 cap)=u3 at T3 W3 hS3 ⊢
 refine Ybw ?_
 have K03:Ar u u3 (· = K):=((K01.trans K2).mono fun _ h=>h.elim).trans (Ar.of_grown T3.grown (.inl rfl))
 have hg3:u3.heap[g]? = some (.cells cur 190):=(T3.grown.block g (ltOf hg2) (fun h=>hgK Ah)).trans hg2
 refine A5 ?_
 refine Nao ?_
 refine V02 ?_
 refine Lh6 ?_
 refine Q47 ?_
 refine Ak ?_
 refine Ex (.int .i64 0) ?_;walk_nrm
 refine Pdv ?_
 refine Fck ?_
 refine Nao ?_
 refine V02 ?_
 refine Lh6 ?_
 refine Jfh ?_
 have T4:Bn u3 (u3.setCell ⟨g,1,none⟩ (.string ((⟨#[]⟩:ByteArray)++data))) g (cur.setIfInBounds 1 (.string ((⟨#[]⟩:ByteArray)++data))) 190:=(Bn.refl hg3).set 1 _
 refine Ef (S:=env Lv) rfl Ac (Dp Aa) (Bg _ _) (x:=undef) (v':=(u3.setCell ⟨g,1,none⟩ (.string ((⟨#[]⟩:ByteArray)++data)))) (fun dz=>.inr ⟨by have hcz:=(show World.cell? (World.at u3 dz) _=_ from(cellOf (j:=1) hg3 (cg 1 _ rfl)));have hfz:=(show World.frozen? (World.at u3 dz) _=false from(Ay (j:=1) hg3));walk_nrm;go_simp;first|done|rfl,rfl⟩) (fun dz=>by have hcz:=(show World.cell? (World.at u3 dz) _=_ from(cellOf (j:=1) hg3 (cg 1 _ rfl)));have hfz:=(show World.frozen? (World.at u3 dz) _=false from(Ay (j:=1) hg3));walk_nrm;intro ez hez;simp [go_sem,hcz,hfz,events_store _ _ _ _ (Value.string _) Mode.plain rfl,storedEv] at hez;subst hez;exact⟨(jg 1),by rw [size_setCell];exact(ltOf hg3)⟩) ?_;walk_nrm
 refine Am ?_
 have W4:VW J Bs (u3.setCell ⟨g,1,none⟩ (.string ((⟨#[]⟩:ByteArray)++data))):=W3.set T4 (NF.setCell W3.nf _ _)
 generalize u3.setCell ⟨g,1,none⟩ (.string ((⟨#[]⟩:ByteArray)++data))=u4 at T4 W4 ⊢
 refine Fck ?_
 refine Pdv ?_
 have hug:u.heap.size<=g:=by have:=K01.size;omega
 have G4:∀i,i<u3.heap.size->i≠g->u4.heap[i]? = u3.heap[i]?:=fun i hi Cu=>T4.grown.block i hi (fun h=>Cu Ah)
 refine Ez ⟨.inr rfl,rfl,?_,W4,?_,g,hug,?_⟩
 ·walk_nrm
 ·exact⟨T4.grown.os.trans K03.os,T4.grown.tape.trans K03.tape,T4.grown.output.trans K03.output,aE K03.size T4.grown.size,fun k hk hx=>(G4 k (aB hk K03.size) Ab).trans (K03.block k hk hx)⟩
 ·have hl3:3<=cur.size:=by have:=(aF.1 (cg 2 _ rfl)).1;omega
  refine⟨(G4 D (ltOf hS3) (bW hgD)).trans hS3,⟨cap,_,0,_,(G4 K (ltOf T3.blk) (bW hgK)).trans T3.blk,T4.blk,?_,aS Ab,by rw [aT];show 0+data.size<=data.size;omega,?_,ng,hgK,hgD⟩,H.nd,H.nk,H.ne⟩
  ·rw [aD Ab];exact cg 0 _ rfl
  ·rw [aD Ab];exact cg 2 _ rfl):p:=h
theorem W7m{p q:Prop}(k:q)(h:Hd q->p:=by
 intro kz
 have jd:∀k,¬J (.cell ⟨D,k,none⟩):=fun k h=>H.nd (W.ji.cell _ h)
 have jk:∀k,¬J (.cell ⟨K,k,none⟩):=fun k h=>H.nk (W.ji.cell _ h)
 have jg:∀k,¬J (.cell ⟨g,k,none⟩):=fun k h=>ng (W.ji.cell _ h)
 revert jd jk jg
 exact kz.1):p:=h ⟨k⟩
theorem Gz9{p q:Prop}(k:q)(h:Hd q->p:=by
 intro kz
 have nc:¬Bs u1.heap.size:=fun h=>by have:=W1.lt h;omega
 have jc:∀k,¬J (.cell ⟨u1.heap.size,k,none⟩):=fun k h=>nc (C.W.ji.cell _ h)
 revert nc jc
 exact kz.1):p:=h ⟨k⟩
theorem Yz6{p:Prop}(h:p:=by
 obtain⟨⟨c,h2,h3,h4⟩,h5⟩:=h
 exact⟨⟨_,h2,c,rfl,h3,h4⟩,Bp h5⟩):p:=h
theorem D3e{p q:Prop}(k:q)(h:Hd q->p:=by
 intro kz
 walk_nrm
 have K8:Ar u7 u8 (fun _=>False):=((Ar.refl u7 _).at d7).trans K8'
 have C8:=C7.kx K8 W8 fun _ h=>h.elim
 have S8:=S7.kf K8
 revert K8 C8 S8
 exact kz.1):p:=h ⟨k⟩
theorem Avr{p q:Prop}(k:q)(h:Hd q->p:=by
 intro kz
 refine Fck ?_
 refine E9 (Bb kind m p d n ver wt) 119 ?_;walk_nrm
 refine Am ?_
 have K1:=B8 u (Bb kind m p d n ver wt) 119 (fun _=>False)
 have W1:=C.W.alloc (Bb kind m p d n ver wt) 119
 have F7:(u.alloc (.cells (Bb kind m p d n ver wt) 119)).heap[u.heap.size]? = some (.cells (Bb kind m p d n ver wt) 119):=heap_alloc_new _ _
 generalize u.alloc (.cells (Bb kind m p d n ver wt) 119)=u1 at K1 W1 F7 ⊢
 revert u1 K1 W1 F7
 exact kz.1):p:=h ⟨k⟩
theorem Chy{p:Prop}(h:p:=by
 rw [hq] at this
 obtain⟨_,_,_,_,_,h,_⟩:=this
 exact⟨_,h⟩):p:=h
theorem S3m{p:Prop}(h:p:=by
 rintro y u9 ⟨rfl,⟨l,hl,T9⟩,W9⟩
 refine⟨hS8.kx T9.kept Ab Ab,?_⟩
 walk_nrm
 exact A6.all Aa ⟨.inl rfl,rfl,trivial,W9,.inr (Gw u8 u9 l K8 hl T9)⟩ _):p:=h
namespace Go.Proofs.YtjoblhlkfmeckaaGreatDoor
open Go Go.Conc Go.Pair Go.RowKit Go.Maps
theorem CI(a b:ByteArray)(w:qq):(Op.stringOp .add a b).events ly w #[]=#[]:=by
 unfold Op.stringOp
 simp [go_sem]
section
variable {J:Loc->Prop} {Bs:Nat->Prop} {Stop:gq->qq->Prop} {u:qq}
theorem Ys(W:VW J Bs u)(D K:Nat)(data:ByteArray)(H:Jj Bs u D K od)(hd:data.size<=100000):Bz ly s7 J Stop 71 #[om (lp ⟨D,0,od⟩),pt Iu,pt data] u fun x u'=>x=gf s7/\VW J Bs u'/\Ar u u' (· = K)/\∃g,u.heap.size<=g/\Jj Bs u' D K (lp (data.size,g)):=by
 have hD:=H.dsk
 have hK:u.heap[K]? = lp (ye #[cf od 0 0,rl tz (-1)] 52):=H.st
 have jd:∀k,¬J (.cell ⟨D,k,od⟩):=fun k h=>H.nd (W.ji.cell _ h)
 have jk:∀k,¬J (.cell ⟨K,k,od⟩):=fun k h=>H.nk (W.ji.cell _ h)
 refine M5s ?_
 simp only [ntmps71,na,Nat.reduceAdd,Nat.reduceSub]
 refine Fck ?_
 refine Pdv ?_
 refine Tvw ?_
 refine Nao ?_
 refine Bat ?_
 rintro x w0 ⟨rfl,hu⟩
 rw [hu]
 clear hu
 walk_nrm
 refine Pdv ?_
 refine Guh ?_
 refine Fck ?_
 refine Nao ?_
 refine L46 ?_
 refine Ak ?_
 refine By (IJ W K Iu hK H.nk) rfl Ac rfl (by walk_nrm) ?_
 rintro x w0 ⟨rfl,hu⟩
 rw [hu]
 clear hu
 walk_nrm
 refine Pdv ?_
 refine M8j ?_
 refine D9q ?_
 refine Cc4 ?_
 refine Aw ?_
 have hI:=BD.at (D:=D) (cs:=#[om (lp ⟨K,0,od⟩)]) (ty:=54)
 refine Ei (I:=BD D #[om (lp ⟨K,0,od⟩)] 54) Ac fun d0=>?_
 have hS:BD D #[om (lp ⟨K,0,od⟩)] 54 (u.at d0):=hD
 refine O82 ?_
 refine Kmg ?_
 refine A6.tp 6 hI (fun _ _ d h=>A8 h d) hS ?_;walk_nrm
 refine A6.tp 11 hI (fun _ _ d h=>A8 h d) hS ?_;walk_nrm
 refine A6.tp 12 hI (fun _ _ d h=>A8 h d) hS ?_;walk_nrm
 refine A6.tl 3 hI (fun _ _ d h=>A8 h d) hS (fun w (hw:BD _ _ _ w)=>(cellOf (j:=0) hw rfl:w.cell? ⟨D,0,od⟩=lp (om (lp ⟨K,0,od⟩)))) (jd 0) (fun w (hw:BD _ _ _ w)=>ltOf hw) ?_;walk_nrm
 refine A6.tl 7 hI (fun _ _ d h=>A8 h d) hS (fun w (hw:BD _ _ _ w)=>(cellOf (j:=0) hw rfl:w.cell? ⟨D,0,od⟩=lp (om (lp ⟨K,0,od⟩)))) (jd 0) (fun w (hw:BD _ _ _ w)=>ltOf hw) ?_;walk_nrm
 refine Oce ?_
 have K1:=B8 (u.at d0) #[pt Iu,pt ⟨#[]⟩,rl tz 0] 190 (fun _=>False)
 have W1:=(W.at d0).alloc #[pt Iu,pt ⟨#[]⟩,rl tz 0] 190
 have B9:((u.at d0).alloc (ye #[pt Iu,pt ⟨#[]⟩,rl tz 0] 190)).heap[u.heap.size]? = lp (ye #[pt Iu,pt ⟨#[]⟩,rl tz 0] 190):=tw (u.at d0) _
 have hS1:BD D #[om (lp ⟨K,0,od⟩)] 54 ((u.at d0).alloc (ye #[pt Iu,pt ⟨#[]⟩,rl tz 0] 190)):=K1.get hS id
 have hK1:((u.at d0).alloc (ye #[pt Iu,pt ⟨#[]⟩,rl tz 0] 190)).heap[K]? = lp (ye #[cf od 0 0,rl tz (-1)] 52):=K1.get hK id
 have K01:Ar u ((u.at d0).alloc (ye #[pt Iu,pt ⟨#[]⟩,rl tz 0] 190)) (fun _=>False):=((Ar.refl u _).at d0).trans K1
 have nr:¬Bs u.heap.size:=fun h=>by have:=W.lt h;omega
 have hsz0:(u.at d0).heap.size=u.heap.size:=rfl
 refine Te (i:=10) (j:=13) Aa ?_ ?_
 ·refine Pp (S:=env Lv) (fn:=0) (x:=cf od 0 0) (v':=(u.at d0)) hI (fun _ _ d h=>A8 h d) rfl Ac (Dp Aa) (Bg _ _) (fun d=>af (by have hc:((u.at d0).at d).cell? ⟨K,0,od⟩=lp (cf od 0 0):=cellOf (j:=0) hK rfl;walk_nrm;go_simp)) (fun d=>by have hc:((u.at d0).at d).cell? ⟨K,0,od⟩=lp (cf od 0 0):=cellOf (j:=0) hK rfl;walk_nrm;intro e he;simp [go_sem,hc] at he;subst he;exact⟨jk 0,ltOf hK⟩) hS ?_
  walk_nrm
  refine Jl (i:=13) (S:=env Lv) (fn:=0) (x:=cf (lp ⟨u.heap.size,0,od⟩) 1 1) (v':=(u.at d0).alloc (ye #[pt Iu,pt ⟨#[]⟩,rl tz 0] 190)) hI (fun _ _ d h=>A8 h d) Aa rfl Ac (Dp Aa) (Bg _ _) (fun d=>af (by walk_nrm;go_simp;first|done|rfl|exact⟨rfl,rfl⟩)) (fun d=>by walk_nrm;intro e he;simp [go_sem] at he) hS1 ?_
  walk_nrm
  generalize (u.at d0).alloc (ye #[pt Iu,pt ⟨#[]⟩,rl tz 0] 190)=u1 at K1 W1 B9 hS1 hK1 K01 ⊢
  exact Iu7
 ·refine Pp (S:=env Lv) (fn:=0) (x:=cf (lp ⟨u.heap.size,0,od⟩) 1 1) (v':=(u.at d0).alloc (ye #[pt Iu,pt ⟨#[]⟩,rl tz 0] 190)) hI (fun _ _ d h=>A8 h d) rfl Ac (Dp Aa) (Bg _ _) (fun d=>af (by walk_nrm;go_simp;first|done|rfl|exact⟨rfl,rfl⟩)) (fun d=>by walk_nrm;intro e he;simp [go_sem] at he) hS1 ?_
  walk_nrm
  generalize (u.at d0).alloc (ye #[pt Iu,pt ⟨#[]⟩,rl tz 0] 190)=u1 at K1 W1 B9 hS1 hK1 K01 ⊢
  refine Jl (i:=10) (S:=env Lv) (fn:=0) (x:=cf od 0 0) (v':=u1) hI (fun _ _ d h=>A8 h d) Aa rfl Ac (Dp Aa) (Bg _ _) (fun d=>af (by have hc:(u1.at d).cell? ⟨K,0,od⟩=lp (cf od 0 0):=cellOf (j:=0) hK1 rfl;walk_nrm;go_simp)) (fun d=>by have hc:(u1.at d).cell? ⟨K,0,od⟩=lp (cf od 0 0):=cellOf (j:=0) hK1 rfl;walk_nrm;intro e he;simp [go_sem,hc] at he;subst he;exact⟨jk 0,ltOf hK1⟩) hS1 ?_
  walk_nrm
  exact Iu7
end
section
variable {J:Loc->Prop} {Bs:Nat->Prop} {Stop:gq->qq->Prop} {u:qq}
theorem Yt(W:VW J Bs u)(D K N g:Nat)(data:ByteArray)(H:Jj Bs u D K (lp (N,g)))(hd:N+data.size<=9223372036854775807):Bz ly s7 J Stop 71 #[om (lp ⟨D,0,od⟩),pt Iu,pt data] u fun x u'=>x=gf s7/\VW J Bs u'/\Ar u u' (· = g)/\Jj Bs u' D K (lp (N+data.size,g)):=by
 have hD:=H.dsk
 obtain⟨fc,cur,s,old,hK,hg,c0,c1,hold,c2,ng,hgK,hgD⟩:=H.st
 simp only at hK hg hold ng hgK hgD
 refine W7m ?_;intro jd jk jg
 refine M5s ?_
 simp only [ntmps71,na,Nat.reduceAdd,Nat.reduceSub]
 refine Fck ?_
 refine Pdv ?_
 refine Tvw ?_
 refine Nao ?_
 refine Bat ?_
 rintro x w0 ⟨rfl,hu⟩
 rw [hu]
 clear hu
 walk_nrm
 refine Pdv ?_
 refine Guh ?_
 refine Fck ?_
 refine Nao ?_
 refine L46 ?_
 refine Ak ?_
 refine By (Zl W K g fc cur hK H.nk hg c0 ng) rfl Ac rfl (by walk_nrm) ?_
 rintro x w0 ⟨rfl,hu⟩
 rw [hu]
 clear hu
 walk_nrm
 refine Pdv ?_
 refine M8j ?_
 refine D9q ?_
 refine Guh ?_
 refine Fck ?_
 refine Nao ?_
 refine L46 ?_
 refine Lh6 ?_
 refine Bq (cellOf (j:=0) hK rfl) (jk 0) (ltOf hK) ?_;walk_nrm
 refine Ak ?_
 refine J75 ?_
 refine Ak ?_
 refine Bq (cellOf (j:=1) hg c1) (jg 1) (ltOf hg) ?_;walk_nrm
 refine Ak ?_
 refine Iv (x:=pt (old++data)) rfl Ac (fun w=>by have hb:old.size+data.size<=9223372036854775807:=Ab;walk_nrm;go_simp;try omega) (fun w=>by walk_nrm;go_simp;exact CI _ _ w) ?_
 walk_nrm
 refine J75 ?_
 refine Ak ?_
 have T4:Bn u (u.setCell ⟨g,1,od⟩ (pt (old++data))) g (cur.setIfInBounds 1 (pt (old++data))) 190:=(Bn.refl hg).set 1 _
 refine Ef (S:=env Lv) rfl Ac (Dp Aa) (Bg _ _) (x:=undef) (v':=(u.setCell ⟨g,1,od⟩ (pt (old++data)))) (fun dz=>o5 ⟨by have hcz:=(show World.cell? (World.at u dz) _=_ from(cellOf (j:=1) hg c1));have hfz:=(show World.frozen? (World.at u dz) _=vp from(Ay (j:=1) hg));walk_nrm;go_simp;first|done|rfl,rfl⟩) (fun dz=>by have hcz:=(show World.cell? (World.at u dz) _=_ from(cellOf (j:=1) hg c1));have hfz:=(show World.frozen? (World.at u dz) _=vp from(Ay (j:=1) hg));walk_nrm;intro ez hez;simp [go_sem,hcz,hfz,events_store _ _ _ _ (Value.string _) Mode.plain rfl,storedEv] at hez;subst hez;exact⟨(jg 1),by rw [size_setCell];exact(ltOf hg)⟩) ?_;walk_nrm
 refine Am ?_
 have W4:VW J Bs (u.setCell ⟨g,1,od⟩ (pt (old++data))):=W.set T4 (NF.setCell W.nf _ _)
 generalize u.setCell ⟨g,1,od⟩ (pt (old++data))=u4 at T4 W4 ⊢
 refine Fck ?_
 refine Pdv ?_
 have G4:∀i,i<u.heap.size->i≠g->u4.heap[i]? = u.heap[i]?:=fun i hi Cu=>T4.grown.block i hi (fun h=>Cu Ah)
 refine Ez ⟨o5 rfl,rfl,?_,W4,Ar.of_grown T4.grown (af rfl),?_⟩
 ·walk_nrm
 ·have hl3:3<=cur.size:=by have:=(aF.1 c2).1;omega
  refine⟨(G4 D (ltOf hD) (bW hgD)).trans hD,⟨fc,_,s,_,(G4 K (ltOf hK) (bW hgK)).trans hK,T4.blk,?_,aS Ab,by rw [aT];show old.size+data.size<=N+data.size;omega,?_,ng,hgK,hgD⟩,H.nd,H.nk,H.ne⟩
  ·rw [aD Ab];exact c0
  ·rw [aD Ab];exact c2
def Yl(D K g fc:Nat)(data:ByteArray)(w:qq):Prop:=AtD D K (cf (lp ⟨g,0,od⟩) 1 fc) w/\w.cell? ⟨g,1,od⟩=lp (pt data)/\g<w.heap.size
theorem Yl.at{D K g fc:Nat}{data:ByteArray}(w:qq)(d:Nat)(h:Yl D K g fc data w):Yl D K g fc data (w.at d):=h
theorem Ab5(W:VW J Bs u)(D K N g:Nat)(H:Jj Bs u D K (lp (N,g))):Bz ly s7 J Stop 72 #[om (lp ⟨D,0,od⟩),pt Iu] u fun x u'=>x=gf s7/\VW J Bs u'/\Ar u u' (· = g)/\Jj Bs u' D K (lp (N,g)):=by
 have hD:=H.dsk
 obtain⟨fc,cur,s,old,hK,hg,c0,c1,hold,c2,ng,hgK,hgD⟩:=H.st
 simp only at hK hg hold ng hgK hgD
 refine W7m ?_;intro jd jk jg
 refine Br func72 Ac rfl (R:=fun tmps=>tmps.getD 4 undef) (fun _ _=>results_tmp Ac _ _ _) (fun _ _=>events_results_tmp Ac _ _) ?_
 simp only [ntmps72,na,Nat.reduceAdd,Nat.reduceSub]
 refine Fck ?_
 refine Pdv ?_
 refine Tvw ?_
 refine Nao ?_
 refine Bat ?_
 rintro x w0 ⟨rfl,hu⟩
 rw [hu]
 clear hu
 walk_nrm
 refine Pdv ?_
 refine Guh ?_
 refine Tvw ?_
 refine Nao ?_
 refine L46 ?_
 refine Ak ?_
 refine By (Zl W K g fc cur hK H.nk hg c0 ng) rfl Ac rfl (by walk_nrm) ?_
 rintro x w0 ⟨rfl,hu⟩
 rw [hu]
 clear hu
 walk_nrm
 refine Pdv ?_
 refine Fck ?_
 refine Lh6 ?_
 refine K75 ?_
 have hI:=Yl.at (D:=D) (K:=K) (g:=g) (fc:=fc) (data:=old)
 refine Ei (I:=Yl D K g fc old) Ac fun d0=>?_
 have hS:Yl D K g fc old (u.at d0):=⟨⟨hD,hK⟩,cellOf (j:=1) hg c1,ltOf hg⟩
 refine O82 ?_
 refine A6.tp 7 hI (fun _ _ d h=>A8 h d) hS ?_;walk_nrm
 refine Oce ?_
 refine A6.tp 10 hI (fun _ _ d h=>A8 h d) hS ?_;walk_nrm
 refine A6.tp 15 hI (fun _ _ d h=>A8 h d) hS ?_;walk_nrm
 refine A6.tl 3 hI (fun _ _ d h=>A8 h d) hS (fun w (hw:Yl _ _ _ _ _ w)=>(cellOf (j:=0) hw.1.1 rfl:w.cell? ⟨D,0,od⟩=lp (om (lp ⟨K,0,od⟩)))) (jd 0) (fun w (hw:Yl _ _ _ _ _ w)=>ltOf hw.1.1) ?_;walk_nrm
 refine A6.tl 11 hI (fun _ _ d h=>A8 h d) hS (fun w (hw:Yl _ _ _ _ _ w)=>(cellOf (j:=0) hw.1.1 rfl:w.cell? ⟨D,0,od⟩=lp (om (lp ⟨K,0,od⟩)))) (jd 0) (fun w (hw:Yl _ _ _ _ _ w)=>ltOf hw.1.1) ?_;walk_nrm
 refine Kmg ?_
 refine A6.tp 12 hI (fun _ _ d h=>A8 h d) hS ?_;walk_nrm
 refine A6.tp 13 hI (fun _ _ d h=>A8 h d) hS ?_;walk_nrm
 refine A6.tl 6 hI (fun _ _ d h=>A8 h d) hS (fun w (hw:Yl _ _ _ _ _ w)=>(cellOf (j:=0) hw.1.2 rfl:w.cell? ⟨K,0,od⟩=lp (cf (lp ⟨g,0,od⟩) 1 fc))) (jk 0) (fun w (hw:Yl _ _ _ _ _ w)=>ltOf hw.1.2) ?_;walk_nrm
 refine A6.tl 14 hI (fun _ _ d h=>A8 h d) hS (fun w (hw:Yl _ _ _ _ _ w)=>(cellOf (j:=0) hw.1.2 rfl:w.cell? ⟨K,0,od⟩=lp (cf (lp ⟨g,0,od⟩) 1 fc))) (jk 0) (fun w (hw:Yl _ _ _ _ _ w)=>ltOf hw.1.2) ?_;walk_nrm
 refine A6.tp 16 hI (fun _ _ d h=>A8 h d) hS ?_;walk_nrm
 refine A6.tp 17 hI (fun _ _ d h=>A8 h d) hS ?_;walk_nrm
 refine A6.tl 18 hI (fun _ _ d h=>A8 h d) hS (fun w (hw:Yl _ _ _ _ _ w)=>(hw.2.1:w.cell? ⟨g,1,od⟩=lp (pt old))) (jg 1) (fun w (hw:Yl _ _ _ _ _ w)=>hw.2.2) ?_;walk_nrm
 refine A6.tp 19 hI (fun _ _ d h=>A8 h d) hS ?_;walk_nrm
 refine A6.tp 20 hI (fun _ _ d h=>A8 h d) hS ?_;walk_nrm
 refine A6.tp 21 hI (fun _ _ d h=>A8 h d) hS ?_;walk_nrm
 have hg0:(u.at d0).heap[g]? = lp (ye cur 190):=hg
 have T4:Bn (u.at d0) ((u.at d0).setCell ⟨g,2,od⟩ (rl tz old.size)) g (cur.setIfInBounds 2 (rl tz old.size)) 190:=(Bn.refl hg0).set 2 _
 have W4:VW J Bs ((u.at d0).setCell ⟨g,2,od⟩ (rl tz old.size)):=(W.at d0).set T4 (NF.setCell (W.at d0).nf _ _)
 have hl3:3<=cur.size:=by have:=(aF.1 c2).1;omega
 have c14:(cur.setIfInBounds 2 (rl tz old.size))[1]? = lp (pt old):=by rw [aD Ab];exact c1
 have G4:∀i,i<u.heap.size->i≠g->((u.at d0).setCell ⟨g,2,od⟩ (rl tz old.size)).heap[i]? = u.heap[i]?:=fun i hi Cu=>T4.grown.block i hi (fun h=>Cu Ah)
 have hS4:Yl D K g fc old ((u.at d0).setCell ⟨g,2,od⟩ (rl tz old.size)):=⟨⟨(G4 D (ltOf hD) (bW hgD)).trans hD,(G4 K (ltOf hK) (bW hgK)).trans hK⟩,cellOf (j:=1) T4.blk c14,ltOf T4.blk⟩
 refine Jl (i:=22) (S:=env Lv) (fn:=0) (x:=undef) (v':=(u.at d0).setCell ⟨g,2,od⟩ (rl tz old.size)) hI (fun _ _ d h=>A8 h d) Aa rfl Ac (Dp Aa) (Bg _ _) (fun d=>o5 ⟨by have hc:((u.at d0).at d).cell? ⟨g,2,od⟩=lp (rl tz s):=cellOf (j:=2) hg c2;have hf:((u.at d0).at d).frozen? ⟨g,2,od⟩=vp:=Ay (W:=u) (j:=2) hg;walk_nrm;go_simp;first|done|rfl,rfl⟩) (fun d=>by have hc:((u.at d0).at d).cell? ⟨g,2,od⟩=lp (rl tz s):=cellOf (j:=2) hg c2;have hf:((u.at d0).at d).frozen? ⟨g,2,od⟩=vp:=Ay (W:=u) (j:=2) hg;walk_nrm;intro e he;simp [go_sem,hc,hf] at he;subst he;exact⟨jg 2,by rw [size_setCell];exact ltOf hg⟩) hS4 ?_
 walk_nrm
 have K4:Ar u ((u.at d0).setCell ⟨g,2,od⟩ (rl tz old.size)) (· = g):=((Ar.refl u _).at d0).trans (Ar.of_grown T4.grown (af rfl))
 generalize (u.at d0).setCell ⟨g,2,od⟩ (rl tz old.size)=u4 at T4 W4 G4 hS4 K4 ⊢
 refine Ybw ?_
 refine Fck ?_
 refine Pdv ?_
 refine Ez ⟨o5 rfl,rfl,?_,W4,K4,?_⟩
 ·walk_nrm
 ·refine⟨hS4.1.1,⟨fc,_,old.size,old,hS4.1.2,T4.blk,?_,c14,hold,aS Ab,ng,hgK,hgD⟩,H.nd,H.nk,H.ne⟩
  rw [aD Ab]
  exact c0
end
theorem J5{w:qq}{base:Nat}{ov:tj}{b:List UInt8}(h:w.ownsRow base 5 1 ov b.length (A0 b)):(convert 35 9 ov).run ly w=.ok (pt ⟨b.toArray⟩) w:=by
 rcases h.2 with⟨rfl,h0⟩|⟨g,cap,cur,rfl,hb,hg,hn,_,hs,ht⟩
 ·have:b = []:=bP.1 h0
  subst this
  exact run_convert_bytes_nil (P:=ly) w 35 5 underlying35 underlying5 0 0 9 underlying9
 ·have hstr:strOfNums (b.map fun c=>(c.toNat:Int))=(⟨b.toArray⟩:ByteArray):=by
   unfold strOfNums
   congr 2
   rw [List.map_map]
   conv=>rhs;rw [←List.map_id b]
   apply List.map_congr_left
   intro c _
   simp
  have:=run_convert_bytes_arg (P:=ly) w 35 5 underlying35 underlying5 g 0 b.length cap (b.map fun c=>(c.toNat:Int)) Ae (fun i hi=>by
   have h1:=h.cells (g:=g) rfl i (rl .u8 b[i].toNat) (by simp [A0,hi])
   rw [Addr.add_lit,aM] at h1
   rw [aM,h1,cR,bX,aR hi]
   rfl) 9 underlying9
  rw [hstr] at this
  exact this
def Hs(lg:Option (Nat×Nat))(n g:Nat):Option (Nat×Nat):=match lg with|none=>lp (n,g)|some q=>lp (q.1+n,q.2)
def M7(lg:Option (Nat×Nat)):Nat:=match lg with|none=>0|some q=>q.1
section
variable {valid:ByteArray->Bool} {Tabs:qq->Prop} {gN:Nat} {J:Loc->Prop} {Bs:Nat->Prop} {Stop:gq->qq->Prop} {u:qq}
theorem Jj.kx{u':qq}{X:Nat->Prop}{D K:Nat}{lg:Option (Nat×Nat)}(H:Jj Bs u D K lg)(hk:Ar u u' X)(h1:¬X D)(h2:¬X K)(h3:∀q,lg=lp q->¬X q.2):Jj Bs u' D K lg:=by
 refine⟨hk.get H.dsk h1,?_,H.nd,H.nk,H.ne⟩
 have h:=H.st
 cases lg with
 | none=>exact hk.get h h2
 | some q=>
  obtain⟨fc,cur,s,data,a1,a2,a3⟩:=h
  exact⟨fc,cur,s,data,hk.get a1 h2,hk.get a2 (h3 q rfl),a3⟩
theorem RY(W:VW J Bs u)(D K:Nat)(lg:Option (Nat×Nat))(data:ByteArray)(H:Jj Bs u D K lg)(hd:data.size<=100000)(hs:M7 lg<=9000000000000000000):Bz ly s7 J Stop 71 #[om (lp ⟨D,0,od⟩),pt Iu,pt data] u fun x u'=>x=gf s7/\VW J Bs u'/\Ar u u' (DX K lg)/\∃g,u.heap.size<=g/\Jj Bs u' D K (Hs lg data.size g):=by
 cases lg with
 | none=>exact Dm (Ys W D K data H hd) fun x u' ⟨h1,h2,h3,g,h4,h5⟩=>⟨h1,h2,h3.mono fun _ h=>af h,g,h4,h5⟩
 | some q=>
  obtain⟨N,g⟩:=q
  exact Dm (Yt W D K N g data H (by simp only [M7] at hs;omega)) fun x u' ⟨h1,h2,h3,h5⟩=>⟨h1,h2,h3.mono fun _ h=>o5 ⟨_,rfl,h⟩,u.heap.size,aA _,h5⟩
theorem UI(U:Jk valid Tabs)(C:Cx Tabs gN J Bs u)(D K:Nat)(lg:Option (Nat×Nat))(H:Jj Bs u D K lg)(gK:gN<=K)(gD:∀q,lg=lp q->gN<=q.2)(hs:M7 lg<=8000000000000000000)(last kind:Int)(p d n:ByteArray)(v:Int)(H0:-2147483648<=kind)(H2:kind<=2147483647)(hl1:-9223372036854775808<=last)(hl2:last<=9223372036854775807)(hp:p.size<=200)(hv:valid p=s7)(hd:d.size<=200)(hn:n.size<=200)(hnv:valid n=s7) :
  Bz ly s7 J Stop 144 #[.agg #[om (lp ⟨D,0,od⟩)],rl tz last,J4 kind p d n v] u fun x u'=>x=gf s7/\VW J Bs u'/\Ar u u' (DX K lg)/\∃m g,m<=1000/\u.heap.size<=g/\Jj Bs u' D K (Hs lg m g):=by
 refine Br func144 Ac rfl (R:=fun tmps=>tmps.getD 6 undef) (fun _ _=>results_tmp Ac _ _ _) (fun _ _=>events_results_tmp Ac _ _) ?_
 simp only [ntmps144,na,Nat.reduceAdd,Nat.reduceSub]
 refine Fck ?_
 refine E9 #[om (lp ⟨D,0,od⟩)] 78 ?_;walk_nrm
 have K1:=B8 u #[om (lp ⟨D,0,od⟩)] 78 (fun _=>False)
 have W1:=C.W.alloc #[om (lp ⟨D,0,od⟩)] 78
 have B9:(u.alloc (ye #[om (lp ⟨D,0,od⟩)] 78)).heap[u.heap.size]? = lp (ye #[om (lp ⟨D,0,od⟩)] 78):=tw _ _
 generalize u.alloc (ye #[om (lp ⟨D,0,od⟩)] 78)=u1 at K1 W1 B9 ⊢
 refine E9 (Dc kind p d n v) 130 ?_;walk_nrm
 have K2:=B8 u1 (Dc kind p d n v) 130 (fun _=>False)
 have W2:=W1.alloc (Dc kind p d n v) 130
 have Fs:(u1.alloc (ye (Dc kind p d n v) 130)).heap[u1.heap.size]? = lp (ye (Dc kind p d n v) 130):=tw _ _
 generalize u1.alloc (ye (Dc kind p d n v) 130)=u2 at K2 W2 Fs ⊢
 refine Iup ?_;intro nr jr
 refine Gz9 ?_;intro nc jc
 have K02:=K1.trans K2
 have C2:=C.kx K02 W2 fun _ h=>h.elim
 refine Pdv ?_
 refine Fck ?_
 refine Ak ?_
 refine Ef (S:=env Lv) (fn:=144) rfl Ac (Dp Aa) (Bg _ _) (x:=J4 kind p d n v) (v':=u2) (fun d'=>(Ij (J:=J) (w:=u2.at d') Fs jc _ _ rfl _ Ac).1) (fun d'=>(Ij (J:=J) (w:=u2.at d') Fs jc _ _ rfl _ Ac).2) ?_
 walk_nrm
 refine By (Zr U C2 last kind p d n v H0 H2 hl1 hl2 hp hv hd hn hnv) rfl Ac rfl (by walk_nrm) ?_
 rintro x u3 ⟨K3,W3,ov,rfl,ho3⟩
 walk_nrm
 iterate 5(refine Ak ?_)
 refine Am ?_
 refine Fck ?_
 have K03:=K02.trans K3
 have hb3:=K3.get (K2.get B9 id) id
 refine Nao ?_
 refine Bq (cellOf (j:=0) hb3 rfl) (jr 0) (ltOf hb3) ?_;walk_nrm
 refine Ak ?_
 have hlen:=AB kind last p d n
 have hlen2:(be (Hi kind last p d n).length 4++Hi kind last p d n).length=4+(Hi kind last p d n).length:=by rw [aH,be_length]
 refine Lz (S:=env Lv) (Bs:=Bs) rfl Ac (Dp Aa) (Bg _ _) W3.ji W3.rc (R:=fun x L'=>x=pt ⟨(be (Hi kind last p d n).length 4++Hi kind last p d n).toArray⟩/\Cq Bs u3 L') (fun L hs=>?_) ?_
 ·have hr:=J5 (w:=L) (D8 ho3 fun g hg hgl=>hs.same W3.nf fun hB=>by have:=W2.lt hB;omega)
  exact H3l
 rintro x u4 L4 Ia hs4 ⟨rfl,hsu⟩
 walk_nrm
 have W4:VW J Bs u4:=W3.kx (fun i hi=>Ia.keep i hi) (Ia.nf W3.nf)
 have K4:Ar u3 u4 (fun _=>False):=Ks W3.nf hsu Ia hs4 (Ar.refl _ _)
 have K04:=K03.trans K4
 have H4:=H.kx K04 id id (fun _ _=>id)
 have Di:(⟨(be (Hi kind last p d n).length 4++Hi kind last p d n).toArray⟩:ByteArray).size=4+(Hi kind last p d n).length:=by show(be (Hi kind last p d n).length 4++Hi kind last p d n).toArray.size=_;rw [aU,hlen2]
 refine By (RY W4 D K lg _ H4 (by rw [Di,hlen];omega) Ab) rfl Ac rfl (by walk_nrm) ?_
 rintro x u5 ⟨rfl,W5,K5,g,hg5,H5⟩
 walk_nrm
 refine Nao ?_
 have hltD:∀q,lg=lp q->q.2<u.heap.size:=fun q hq=>by
  have:=H.st
  rw [hq] at this
  obtain⟨_,_,_,_,_,h,_⟩:=this
  exact ltOf h
 have hltK:K<u.heap.size:=by
  have:=H.st
  cases hq:lg with
  | none=>rw [hq] at this;exact ltOf this
  | some q=>rw [hq] at this;obtain⟨_,_,_,_,h,_⟩:=this;exact ltOf h
 have hb5:=K5.get (K4.get hb3 id) (by
  rintro(h|⟨q,hq,h⟩)
  ·omega
  ·have:=hltD q hq;omega)
 refine Bq (cellOf (j:=0) hb5 rfl) (jr 0) (ltOf hb5) ?_;walk_nrm
 obtain⟨N',g',hlg⟩:∃N' g',Hs lg (⟨(be (Hi kind last p d n).length 4++Hi kind last p d n).toArray⟩:ByteArray).size g=lp (N',g'):=by
  cases lg <;> exact⟨_,_,rfl⟩
 have hg':DX K lg g'∨u.heap.size<=g':=by
  cases lg with
  | none=>right;simp only [Hs,aL,bH] at hlg;have:=K04.size;omega
  | some q=>left;simp only [Hs,aL,bH] at hlg;exact o5 ⟨q,rfl,hlg.2.symm⟩
 have H5':=H5
 rw [hlg] at H5'
 refine By (Ab5 W5 D K N' g' H5') rfl Ac rfl (by walk_nrm) ?_
 rintro x u6 ⟨rfl,W6,K6,H6⟩
 walk_nrm
 refine Lh6 ?_
 refine Am ?_
 refine Ez ⟨o5 rfl,rfl,?_,W6,?_,(⟨(be (Hi kind last p d n).length 4++Hi kind last p d n).toArray⟩:ByteArray).size,g,by rw [Di,hlen];omega,aE K04.size hg5,by rw [hlg];exact H6⟩
 ·walk_nrm
  first|done|rfl|simp
 ·have K05:Ar u u5 (DX K lg):=(K04.mono fun _ h=>h.elim).trans K5
  refine⟨K6.os.trans K05.os,K6.tape.trans K05.tape,K6.output.trans K05.output,aE K05.size K6.size,fun k hk hx=>(K6.block k (aB hk K05.size) (fun h=>?_)).trans (K05.block k hk hx)⟩
  rcases hg' with h'|h'
  ·exact hx (h▸h')
  ·omega
end
def Okd(kind:Nat)(p:ByteArray)(ns:List (ByteArray×Nd)):Prop:=match kind with
 | 1=>(∀q∈ns,q.1≠p)/\ns.length<32
 | _=>∃x,(p,x)∈ns
section
variable {valid:ByteArray->Bool} {Tabs:qq->Prop} {gN:Nat} {J:Loc->Prop} {Bs:Nat->Prop} {Stop:gq->qq->Prop} {u:qq}
theorem XA(C:Cx Tabs gN J Bs u)(tb mb:Nat)(num:Int)(ns:List (ByteArray×Nd))(ht:Ca u tb mb num ns)(nt:¬Bs tb)(nm:¬Bs mb)(tk:R9 num ns)(kind:Nat)(hk:kind=1∨kind=2∨kind=3)(p d n:ByteArray)(v:Int)(hp:p.size<=1000)(hpa:Hq p=s7)(hsl:Dj p=s7)(hd:d.size<=40)(hn:n.size<=10) :
  Bz ly s7 J Stop 66 #[om (lp ⟨tb,0,od⟩),J4 kind p d n v] u fun x u'=>Ar u u' (fun _=>False)/\VW J Bs u'/\∃c:Int,x=rl tz c/\(0<=c/\c<=15)/\(c=0->Okd kind p ns):=by
 refine Dm (Fc (f:=66) Ad C.W (X:=fun _=>False) (R:=fun x _=>∃c:Int,x=rl tz c/\(0<=c/\c<=15)/\(c=0->Okd kind p ns)) fun L hs=>?_) fun y w' h=>⟨h.1,h.2.1,let⟨_,_,h⟩:=h.2.2;h⟩
 have Gv:=C.glob hs
 obtain⟨m,hm⟩:=Gv.ml
 have hL:=ht.sim C.W.nf hs nt nm
 have h1:1<L.heap.size:=by have:=Gv.size;have:=C.g8;omega
 rcases hk with rfl|rfl|rfl
 ·refine(WX hL m hm h1 p d n v hp hpa hd hn hsl).mono fun e w' h=>?_
  exact Yz6
 ·refine(WY hL m hm h1 p d n v hp hpa (fun W hW=>?_)).mono fun e w' h=>?_
  ·refine(Mh W tb mb num ns (hL.below hW (ltOf hL.blk) hL.map.lt) p (by have:=tk.len;omega) tk.size).mono fun e w' h=>?_
   obtain⟨⟨a,k,c,h1,h2⟩,h3⟩:=h
   exact⟨⟨a,k,c,h1⟩,h3⟩
  ·exact Yz6
 ·refine(WZ hL m hm h1 p d n v hp hpa hd).mono fun e w' h=>?_
  exact Yz6
theorem R9.up{num:Int}{ns:List (ByteArray×Nd)}(h:R9 num ns)(h1:num+1<9223372036854775807){ns':List (ByteArray×Nd)}(hl:ns'.length<=32)(hm:∀q∈ns',q∈ns∨(q.1.size<=1000/\Dj q.1=s7/\0<=q.2.made/\q.2.made<=num+1/\0<=q.2.changed/\q.2.changed<=num+1/\0<=q.2.version/\q.2.version<=2147483647)):R9 (num+1) ns':=by
 refine⟨hl,by have:=h.num0;omega,h1,fun q hq=>?_,fun q hq=>?_⟩
 ·rcases hm q hq with h2|h2
  ·exact h.size q h2
  ·exact⟨h2.1,h2.2.1⟩
 ·rcases hm q hq with h2|h2
  ·obtain⟨a,b,c,d,e,f⟩:=h.node q h2
   exact⟨a,Ab,c,Ab,e,f⟩
  ·exact h2.2.2
theorem doV(C:Cx Tabs gN J Bs u)(tb mb:Nat)(num:Int)(ns:List (ByteArray×Nd))(ht:Ca u tb mb num ns)(nt:¬Bs tb)(nm:¬Bs mb)(Cu:mb≠tb)(tk:R9 num ns)(h1:num+1<9223372036854775807)(kind:Nat)(hk:kind=1∨kind=2∨kind=3)(p d n:ByteArray)(v:Int)(hp:p.size<=1000)(hsl:Dj p=s7)(E6:Okd kind p ns) :
  Bz ly s7 J Stop 67 #[om (lp ⟨tb,0,od⟩),J4 kind p d n v] u fun x u'=>Ar u u' (fun i=>i=tb∨i=mb)/\VW J Bs u'/\∃ns',Ca u' tb mb (num+1) ns'/\R9 (num+1) ns'/\(kind=3->∃x,(p,x)∈ns'):=by
 refine Dm (Fc (f:=67) Ad C.W (X:=fun i=>i=tb∨i=mb) (R:=fun x w'=>∃ns',Ca w' tb mb (num+1) ns'/\R9 (num+1) ns'/\(kind=3->∃x,(p,x)∈ns')) fun L hs=>?_) fun y w' h=>?_
 ·have hL:=ht.sim C.W.nf hs nt nm
  have h0:=tk.num0
  have hl:=tk.len
  rcases hk with rfl|rfl|rfl
  ·refine(doC hL Cu h0 Ab p d n v hp E6.1).mono fun e w' h=>⟨⟨_,h.1,_,h.2.1,tk.up h1 (by have:=E6.2;simp;omega) ?_,fun h=>Ab⟩,h.2.2⟩
   intro q hq
   simp at hq
   rcases hq with hq|rfl
   ·exact af hq
   ·exact o5 ⟨hp,hsl,by simp only;omega,by simp only;omega,by simp only;omega,by simp only;omega,by simp only;omega,by simp only;omega⟩
  ·obtain⟨x,hx⟩:=E6
   obtain⟨A,B,hAB⟩:=wc hx
   have hlen:ns.length=A.length+(B.length+1):=by rw [hAB];simp
   refine(doD hL Cu h0 Ab p d n v hp hAB).mono fun e w' h=>⟨⟨_,h.1,_,h.2.1,tk.up h1 Ag ?_,fun h=>Ab⟩,h.2.2⟩
   intro q hq
   simp at hq
   left
   rw [hAB]
   simp
   rcases hq with hq|hq
   ·exact af hq
   ·exact o5 (o5 hq)
  ·obtain⟨x,hx⟩:=E6
   obtain⟨A,B,hAB⟩:=wc hx
   have hlen:ns.length=A.length+(B.length+1):=by rw [hAB];simp
   obtain⟨n1,n2,n3,n4,n5,n6⟩:=tk.node _ hx
   simp only at n1 n2 n3 n4 n5 n6
   refine(doS hL Cu h0 Ab p d n v hp hAB n5 n6).mono fun e w' h=>⟨⟨_,h.1,_,h.2.1,tk.up h1 Ag ?_,fun _=>⟨{ x with data:=d,changed:=num+1,version:=N3 x.version },eP _ eI⟩⟩,h.2.2⟩
   intro q hq
   simp at hq
   rcases hq with hq|rfl|hq
   ·left;rw [hAB];simp [hq]
   ·right
    have hvb:0<=N3 x.version/\N3 x.version<=2147483647:=by unfold N3;split <;> omega
    exact⟨hp,hsl,n1,by simp only;omega,by simp only;omega,by simp only;omega,hvb.1,hvb.2⟩
   ·left;rw [hAB];simp [hq]
 ·obtain⟨K,W,L',hs,ns',h1,h2,h3⟩:=h
  exact⟨K,W,ns',⟨(hs.same W.nf nt).symm.trans h1.blk,h1.map.of_block (hs.same W.nf nm).symm⟩,h2,h3⟩
end
structure Qr(Bs:Nat->Prop)(gN:Nat)(u:qq)(svb D K tb mb wm sm s1 s2:Nat)(lg:Option (Nat×Nat))(last num:Int)(ns:List (ByteArray×Nd))(ks:List tj):Prop where
 hv:u.heap[svb]? = lp (ye (B0 D tb wm sm last vp) 84)
 ht:Ca u tb mb num ns
 tk:R9 num ns
 hw:Lo u wm ks
 hm:Bm ly 3 u sm (Fp [(1,s1),(2,s2)])
 hd:Jj Bs u D K lg
 nv:¬Bs svb
 nt:¬Bs tb
 nm:¬Bs mb
 nw:¬Bs wm
 nsm:¬Bs sm
 gv:gN<=svb
 gt:gN<=tb
 gm:gN<=mb
 gw:gN<=wm
 gK:gN<=K
 gg:∀q,lg=lp q->gN<=q.2
 wmb:wm≠mb
 wsm:wm≠sm
 mbs:mb≠sm
theorem Eu{u:qq}{a b:Nat}{o o':Obj}(h:u.heap[a]? = lp o)(h':u.heap[b]? = lp o')(Cu:o≠o'):a≠b:=fun e=>by
 subst e
 rw [h] at h'
 exact Cu (aC h')
theorem Bm.obj{P:Program}{k:TypeId}{w:qq}{b:Nat}{m:List (tj×tj)}(h:Bm P k w b m):∃es clock,w.heap[b]? = lp (.map es clock):=let⟨es,clock,h1,_⟩:=h.ex;⟨es,clock,h1⟩
theorem Fz{P:Program}{k:TypeId}{w:qq}{b a:Nat}{m:List (tj×tj)}{cs:Array tj}{ty:TypeId}{fz:Nat×Nat}(h:Bm P k w b m)(ha:w.heap[a]? = lp (ye cs ty fz)):b≠a:=by
 obtain⟨es,clock,h1⟩:=h.obj
 exact Eu h1 ha Ae
section
variable {valid:ByteArray->Bool} {Tabs:qq->Prop} {gN:Nat} {J:Loc->Prop} {Bs:Nat->Prop} {Stop:gq->qq->Prop} {u:qq} {svb D K tb mb wm sm s1 s2:Nat} {lg:Option (Nat×Nat)} {last num:Int} {ns:List (ByteArray×Nd)} {ks:List tj}
theorem Qr.kx(S:Qr Bs gN u svb D K tb mb wm sm s1 s2 lg last num ns ks){u':qq}{X:Nat->Prop}(hk:Ar u u' X)(h1:¬X svb)(h2:¬X tb)(h3:¬X mb)(h4:¬X wm)(h5:¬X sm)(h6:¬X D)(h7:¬X K)(h8:∀q,lg=lp q->¬X q.2):Qr Bs gN u' svb D K tb mb wm sm s1 s2 lg last num ns ks:=
 ⟨hk.get S.hv h1,S.ht.kx hk h2 h3,S.tk,S.hw.keep (hk.block _ (Bm.lt S.hw) h4),S.hm.of_block (hk.block _ S.hm.lt h5),S.hd.kx hk h6 h7 h8,S.nv,S.nt,S.nm,S.nw,S.nsm,S.gv,S.gt,S.gm,S.gw,S.gK,S.gg,S.wmb,S.wsm,S.mbs⟩
theorem Qr.kf(S:Qr Bs gN u svb D K tb mb wm sm s1 s2 lg last num ns ks){u':qq}(hk:Ar u u' (fun _=>False)):Qr Bs gN u' svb D K tb mb wm sm s1 s2 lg last num ns ks:=S.kx hk id id id id id id id fun _ _=>id
structure Off(svb D K tb mb wm sm:Nat)(lg:Option (Nat×Nat))(b:Nat):Prop where
 v:svb≠b
 t:tb≠b
 m:mb≠b
 w:wm≠b
 s:sm≠b
 d:D≠b
 k:K≠b
 g:∀q,lg=lp q->q.2≠b
theorem Qr.off(S:Qr Bs gN u svb D K tb mb wm sm s1 s2 lg last num ns ks){b:Nat}{cs:Array tj}(h:u.heap[b]? = lp (ye cs 75)):Off svb D K tb mb wm sm lg b:=by
 refine⟨Eu S.hv h Ae,Eu S.ht.blk h Ae,Fz S.ht.map h,Fz S.hw h,Fz S.hm h,Eu S.hd.dsk h Ae,?_,?_⟩
 ·have:=S.hd.st
  cases lg with
  | none=>exact Eu this h Ae
  | some q=>obtain⟨_,_,_,_,h1,_⟩:=this;exact Eu h1 h Ae
 ·rintro q rfl
  obtain⟨_,_,_,_,_,h1,_⟩:=S.hd.st
  exact Eu h1 h Ae
def TT(kind:Nat):List Tl:=match kind with
 | 1=>[(0,vp,1),(1,s7,4)]
 | 2=>[(0,vp,2),(1,vp,2),(1,s7,4)]
 | _=>[(0,vp,3)]
theorem UW{L:qq}(h:Yn Tabs gN L){kind:Nat}(hk:kind=1∨kind=2∨kind=3):∃g,g<gN/\Hn L kind g (TT kind):=by
 rcases hk with rfl|rfl|rfl
 ·exact h.t1
 ·exact h.t2
 ·exact h.t3
theorem UX{kind:Nat}(hk:kind=1∨kind=2∨kind=3):∃T0,TT kind=(0,vp,(kind:Int)) :: T0:=by
 rcases hk with rfl|rfl|rfl <;> exact⟨_,rfl⟩
theorem QL{kind:Nat}(hk:kind=1∨kind=2∨kind=3):∀x∈TT kind,(x.1=0/\x.2.1=vp)∨x.1=1:=by
 rcases hk with rfl|rfl|rfl <;> simp [TT]
theorem Aab{kind:Nat}(hk:kind=1∨kind=2∨kind=3):(TT kind).length<=3:=by
 rcases hk with rfl|rfl|rfl <;> simp [TT]
theorem WI{kind:Nat}(hk:kind=1∨kind=2∨kind=3){s:Int}{p q:ByteArray}{ks:List tj}(hks:ks = []∨∃P0,ks = [Dw 2 P0 0])(hno:ks≠[Dw s p 0]):∀x∈TT kind,Dw s (if x.2.1 then q else p) x.1∉ks:=by
 intro x hx hin
 rcases hks with rfl|⟨P0,rfl⟩
 ·cases hin
 ·rw [dH] at hin
  rcases QL hk x hx with⟨h1,h2⟩|h1
  ·rw [h2,h1] at hin
   simp only [aV,bQ] at hin
   exact hno (by rw [hin])
  ·rw [h1] at hin
   simp at hin
theorem TQ{w:qq}{D tb wm sm:Nat}{last:Int}{down:Bool}(h:w.heap[svb]? = lp (ye (B0 D tb wm sm last down) 84))(hj:∀k,¬J (.cell ⟨svb,k,od⟩))(o:Oper)(k:Nat)(ho:o.op=.load 78 (.tmp k))(a:Act)(hk:a.eval (.tmp k)=om (lp ⟨svb,0,od⟩)) :
  Go.Pair.Yields ly (execOp a.eval o) w (.agg #[om (lp ⟨D,0,od⟩)]) w/\∀e∈(execOp a.eval o).events ly w #[],EvJ J w.heap.size e:=by
 have c0:=Kl (w:=w) 0 h
 unfold execOp
 rw [ho]
 simp only [hk]
 refine⟨af ?_,fun e he=>?_⟩
 ·go_simp
 ·simp [go_sem,c0] at he
  subst he
  exact⟨hj _,ltOf h⟩
def Ns(w:qq)(b:Nat)(kind:Int)(p d n:ByteArray)(v:Int):qq:=((((w.setCell ⟨b,0,od⟩ (rl tz kind)).setCell ⟨b,1,od⟩ (pt p)).setCell ⟨b,2,od⟩ (pt d)).setCell ⟨b,3,od⟩ (pt n)).setCell ⟨b,4,od⟩ (rl tz v)
theorem X0{w:qq}{b:Nat}(h:w.heap[b]? = lp (ye (Dc 0 ⟨#[]⟩ ⟨#[]⟩ ⟨#[]⟩ 0) 130))(kind:Int)(p d n:ByteArray)(v:Int):Bn w (Ns w b kind p d n v) b (Dc kind p d n v) 130:=
 (((((Bn.refl h).set 0 (rl tz kind)).set 1 (pt p)).set 2 (pt d)).set 3 (pt n)).set 4 (rl tz v)
theorem PZ{w:qq}{b:Nat}{kind:Int}{p d n:ByteArray}{v:Int}(h:w.heap[b]? = lp (ye (Dc 0 ⟨#[]⟩ ⟨#[]⟩ ⟨#[]⟩ 0) 130))(hj:∀k,¬J (.cell ⟨b,k,od⟩))(o:Oper)(ho:o.op=.store 130 (.tmp 6) (.tmp 18))(a:Act)(h6:a.eval (.tmp 6)=om (lp ⟨b,0,od⟩))(h18:a.eval (.tmp 18)=J4 kind p d n v) :
  (∀d',Go.Pair.Yields ly (execOp a.eval o) (w.at d') undef ((Ns w b kind p d n v).at d'))/\∀d',∀e∈(execOp a.eval o).events ly (w.at d') #[],EvJ J (Ns w b kind p d n v).heap.size e:=by
 have Di:(Ns w b kind p d n v).heap.size=w.heap.size:=by simp [Ns,size_setCell]
 refine⟨fun d'=>o5 ⟨?_,rfl⟩,fun d'=>?_⟩
 all_goals
  obtain⟨a0,a1,a2,a3,a4⟩:=Ck5 (w:=(w.at d')) 0 1 2 3 4 h
  obtain⟨f0,f1,f2,f3,f4⟩:=Fk5 (w:=(w.at d')) 0 1 2 3 4 h
  unfold execOp
  rw [ho]
  simp only [h6,h18]
 ·go_simp
  unfold Ns
  simp only [at_set]
 ·intro e he
  simp [go_sem,a0,a1,a2,a3,a4,f0,f1,f2,f3,f4,events_store _ _ _ _ (Value.string _) Mode.plain rfl,storedEv] at he
  have hl:b<(Ns w b kind p d n v).heap.size:=by rw [Di];exact ltOf h
  rcases he with rfl|rfl|rfl|rfl|rfl <;> exact⟨hj _,hl⟩
end
section
variable {valid:ByteArray->Bool} {Tabs:qq->Prop} {gN:Nat} {J:Loc->Prop} {Bs:Nat->Prop} {Stop:gq->qq->Prop} {u:qq} {svb D K tb mb wm sm s1 s2:Nat} {lg:Option (Nat×Nat)} {last num:Int} {ns:List (ByteArray×Nd)} {ks:List tj}
def Ov(u':qq)(B sb:Nat)(n p t v e:tj)(l:List UInt8):Prop:=∃ov,u'.heap[sb]? = lp (ye (Bl n p t v e ov) 75)/\u'.ownsRow B 5 1 ov l.length (A0 l)
theorem Ov.kx{u1 u2:qq}{B sb:Nat}{n p t v e:tj}{l:List UInt8}(h:Ov u1 B sb n p t v e l){X:Nat->Prop}(hk:Ar u1 u2 X)(h1:¬X sb)(h2:∀i,B<=i->¬X i):Ov u2 B sb n p t v e l:=by
 obtain⟨ov,a,b⟩:=h
 exact⟨ov,hk.get a h1,D8 b fun g hg hgl=>hk.block g hgl (h2 g hg)⟩
structure R0(Bs:Nat->Prop)(gN:Nat)(u u':qq)(svb D K tb mb wm sm s1 s2:Nat)(lg:Option (Nat×Nat))(last num:Int)(ks:List tj)(p1 t1 e1 n2 p2 t2 v2 e2:tj)(kind:Nat)(p:ByteArray):Prop where
 srv:∃lg' ns' ks',Qr Bs gN u' svb D K tb mb wm sm s1 s2 lg' last (num+1) ns' ks'/\M7 lg'<=M7 lg+1000/\((ks≠[Dw 2 p 0]/\ks'=ks/\u'.heap[s2]? = u.heap[s2]?)∨(ks = [Dw 2 p 0]/\ks' = []/\Ov u' u.heap.size s2 n2 p2 t2 v2 e2 (BC (num+1) kind p)))
 kept:Ar u u' (fun i=>i=tb∨i=mb∨DX K lg i∨i=s1∨i=s2∨i=wm)
 out:∃l,20<=l.length/\Ov u' u.heap.size s1 (rl tz 1) p1 t1 (rl tz 1) e1 l
theorem Ab8{kind:Nat}(hk:kind=1∨kind=2∨kind=3):∀x∈TT kind,(Lit.int tz x.1).wf=s7:=fun x hx=>by
 rcases QL hk x hx with⟨h,_⟩|h <;> (rw [h];decide)
theorem R0.at{u':qq}{p1 t1 e1 n2 p2 t2 v2 e2:tj}{kind:Nat}{p:ByteArray}(h:R0 Bs gN u u' svb D K tb mb wm sm s1 s2 lg last num ks p1 t1 e1 n2 p2 t2 v2 e2 kind p)(d:Nat):R0 Bs gN u (u'.at d) svb D K tb mb wm sm s1 s2 lg last num ks p1 t1 e1 n2 p2 t2 v2 e2 kind p:=by
 obtain⟨⟨lg',ns',ks',h1,h2,h3⟩,h4,h5⟩:=h
 exact⟨⟨lg',ns',ks',h1.kf ((Ar.refl u' _).at d),h2,h3⟩,h4.at d,h5⟩
def Wu(rb:Nat)(rc:Array tj)(cb:Nat)(cc:Array tj)(w:qq):Prop:=w.heap[rb]? = lp (ye rc 119)/\w.heap[cb]? = lp (ye cc 130)
theorem Wu.at{rb:Nat}{rc:Array tj}{cb:Nat}{cc:Array tj}(w:qq)(d:Nat)(h:Wu rb rc cb cc w):Wu rb rc cb cc (w.at d):=h
theorem Wu.kx{rb:Nat}{rc:Array tj}{cb:Nat}{cc:Array tj}{w w':qq}{X:Nat->Prop}(h:Wu rb rc cb cc w)(hk:Ar w w' X)(h1:¬X rb)(h2:¬X cb):Wu rb rc cb cc w':=⟨hk.get h.1 h1,hk.get h.2 h2⟩
theorem SM(U:Jk valid Tabs)(C:Cx Tabs gN J Bs u)(S:Qr Bs gN u svb D K tb mb wm sm s1 s2 lg last num ns ks)(p1 t1 e1 n2 p2 t2 v2 e2:tj)(B9:u.heap[s1]? = lp (ye (Bl (rl tz 1) p1 t1 (rl tz 1) e1 (cf od 0 0)) 75))(Fs:u.heap[s2]? = lp (ye (Bl n2 p2 t2 v2 e2 (cf od 0 0)) 75))(h12:s1≠s2)(g1:gN<=s1)(g2:gN<=s2)(j13:¬J (.cell ⟨s1,3,od⟩))(j15:¬J (.cell ⟨s1,5,od⟩))(j25:¬J (.cell ⟨s2,5,od⟩))(kind:Nat)(hk:kind=1∨kind=2∨kind=3)(m:Int)(hm1:-2147483648<=m)(hm2:m<=2147483647)(p d n:ByteArray)(ver:Int)(wt:Bool)(hp:p.size<=200)(hpv:valid p=s7)(hpa:Hq p=s7)(hsl:Dj p=s7)(hd:d.size<=40)(hn:n.size<=10)(hnv:valid n=s7)(hks:ks = []∨∃P0,ks = [Dw 2 P0 0])(Di:M7 lg<=8000000000000000000)(hnum:num+1<9223372036854775807) :
  Bz ly s7 J Stop 100 #[om (lp ⟨svb,0,od⟩),om (lp ⟨s1,0,od⟩),Mv kind m p d n ver wt] u fun x u'=>x=.tuple #[]/\VW J Bs u'/\((∃l:List UInt8,20<=l.length/\Told u u' s1 (rl tz 1) p1 t1 (rl tz 1) e1 l)∨R0 Bs gN u u' svb D K tb mb wm sm s1 s2 lg last num ks p1 t1 e1 n2 p2 t2 v2 e2 kind p):=by
 have Ia:kind<4:=Ab
 have hkb1:(-2147483648:Int)<=kind:=Ab
 have hkb2:(kind:Int)<=2147483647:=Ab
 have o1:=S.off B9
 have o2:=S.off Fs
 have jv:∀k,¬J (.cell ⟨svb,k,od⟩):=fun k h=>S.nv (C.W.ji.cell _ h)
 refine Br func100 Ac rfl (R:=fun _=>.tuple #[]) (fun _ _=>results_none Ac _ _ _) (fun _ _=>events_results_none Ac _ _) ?_
 simp only [ntmps100,na,Nat.reduceAdd,Nat.reduceSub]
 refine Avr ?_;intro u1 K1 W1 F7
 refine Iup ?_;intro nr jr
 refine Fck ?_
 refine Ak ?_
 refine Euk ?_
 refine Ak ?_
 refine Bq (cellOf (j:=2) F7 rfl) (jr 2) (ltOf F7) ?_;walk_nrm
 refine Ak ?_
 refine Bq (cellOf (j:=3) F7 rfl) (jr 3) (ltOf F7) ?_;walk_nrm
 refine Ak ?_
 refine Bq (cellOf (j:=4) F7 rfl) (jr 4) (ltOf F7) ?_;walk_nrm
 refine Ak ?_
 refine Bq (cellOf (j:=5) F7 rfl) (jr 5) (ltOf F7) ?_;walk_nrm
 refine Ex (J4 kind p d n ver) ?_;walk_nrm
 refine E9 (Dc 0 ⟨#[]⟩ ⟨#[]⟩ ⟨#[]⟩ 0) 130 ?_;walk_nrm
 have K2a:=B8 u1 (Dc 0 ⟨#[]⟩ ⟨#[]⟩ ⟨#[]⟩ 0) 130 (fun _=>False)
 have W2a:=W1.alloc (Dc 0 ⟨#[]⟩ ⟨#[]⟩ ⟨#[]⟩ 0) 130
 have hb2a:(u1.alloc (ye (Dc 0 ⟨#[]⟩ ⟨#[]⟩ ⟨#[]⟩ 0) 130)).heap[u1.heap.size]? = lp (ye (Dc 0 ⟨#[]⟩ ⟨#[]⟩ ⟨#[]⟩ 0) 130):=tw _ _
 generalize u1.alloc (ye (Dc 0 ⟨#[]⟩ ⟨#[]⟩ ⟨#[]⟩ 0) 130)=u2a at K2a W2a hb2a ⊢
 refine Gz9 ?_;intro nc jc
 have SC:=PZ (J:=J) (kind:=kind) (p:=p) (d:=d) (n:=n) (v:=ver) hb2a jc
 have T2:=X0 hb2a kind p d n ver
 refine Ef (S:=env Lv) (fn:=100) rfl Ac (Dp Aa) (Bg _ _) (x:=undef) (v':=Ns u2a u1.heap.size kind p d n ver) (SC _ rfl _ Ac Ac).1 (SC _ rfl _ Ac Ac).2 ?_
 walk_nrm
 have W2:VW J Bs (Ns u2a u1.heap.size kind p d n ver):=W2a.set T2 (by unfold Ns;exact NF.setCell (NF.setCell (NF.setCell (NF.setCell (NF.setCell W2a.nf _ _) _ _) _ _) _ _) _ _)
 generalize Ns u2a u1.heap.size kind p d n ver=u2 at T2 W2 ⊢
 have K12:Ar u1 u2 (fun _=>False):=⟨T2.grown.os.trans K2a.os,T2.grown.tape.trans K2a.tape,T2.grown.output.trans K2a.output,aE K2a.size T2.grown.size,fun k hk _=>(T2.grown.block k (aB hk K2a.size) (fun h=>by cases h;omega)).trans (K2a.block k hk id)⟩
 have K02:=K1.trans K12
 have C2:=C.kx K02 W2 fun _ h=>h.elim
 have S2:=S.kf K02
 have hr2:=K12.get F7 id
 refine Am ?_
 refine M8j ?_
 have hI:=F2.at (rb:=u1.heap.size) (rc:=Dc kind p d n ver) (rt:=130) (svb:=svb) (vc:=B0 D tb wm sm last vp)
 refine Ei (I:=F2 u1.heap.size (Dc kind p d n ver) 130 svb (B0 D tb wm sm last vp)) Ac fun d2=>?_
 have hS2:F2 u1.heap.size (Dc kind p d n ver) 130 svb (B0 D tb wm sm last vp) (u2.at d2):=⟨T2.blk,S2.hv⟩
 refine A6.tp 0 hI (fun _ _ d h=>A8 h d) hS2 ?_;walk_nrm
 refine A6.tp 1 hI (fun _ _ d h=>A8 h d) hS2 ?_;walk_nrm
 refine A6.tp 2 hI (fun _ _ d h=>A8 h d) hS2 ?_;walk_nrm
 refine A6.tl 3 hI (fun _ _ d h=>A8 h d) hS2 (fun w (hw:F2 _ _ _ _ _ w)=>(cellOf (j:=1) hw.2 rfl:w.cell? ⟨svb,1,od⟩=lp (om (lp ⟨tb,0,od⟩)))) (jv 1) (fun w (hw:F2 _ _ _ _ _ w)=>ltOf hw.2) ?_;walk_nrm
 refine A6.take (i:=4) (x:=(J4 kind p d n ver)) hI (fun _ _ d h=>A8 h d) rfl Aa Aa Aa (Ge (S:=env Lv) Ac (Dp (fn:=0) Aa) (Bg _ _) ?_) hS2 ?_
 ·exact fun w hw=>Ij hw.1 jc _ _ rfl _ Ac
 walk_nrm
 refine Cb (i:=5) (XA (C2.kx ((Ar.refl u2 (fun _=>False)).at d2) (W2.at d2) fun _ h=>h.elim) tb mb num ns (S2.ht.at d2) S.nt S.nm S.tk kind hk p d n ver Ab hpa hsl hd hn) Aa rfl Ac rfl (by walk_nrm) ?_
 rintro x u3 ⟨K3',W3,c,rfl,⟨hc0,hc15⟩,E6⟩
 have hS3:=hS2.kx K3' id id
 refine⟨hS3,?_⟩
 walk_nrm
 refine A6.tp 6 hI (fun _ _ d h=>A8 h d) hS3 ?_;walk_nrm
 refine Ybw ?_
 have K23:Ar u2 u3 (fun _=>False):=((Ar.refl u2 _).at d2).trans K3'
 have K03:=K02.trans K23
 have C3:=C.kx K03 W3 fun _ h=>h.elim
 have S3:=S.kf K03
 have hr3:=K23.get hr2 id
 have hb13:=K03.get B9 id
 have hb23:=K03.get Fs id
 have hz1:-9223372036854775808<=num:=by have:=S.tk.num0;omega
 have hz2:num<=9223372036854775807:=by have:=S.tk.num1;omega
 refine Fck ?_
 refine Ak ?_
 by_cases hc:c=0
 rotate_left
 ·refine Ex (gf s7) ?_;walk_nrm
  refine K75 ?_
  refine Fck ?_
  refine Lh6 ?_
  refine Ef (S:=env Lv) (fn:=100) rfl Ac (Dp Aa) (Bg _ _) (x:=Mv kind m p d n ver wt) (v':=u3) (fun d'=>(Fx (J:=J) (w:=u3.at d') hr3 jr _ _ rfl _ Ac).1) (fun d'=>(Fx (J:=J) (w:=u3.at d') hr3 jr _ _ rfl _ Ac).2) ?_
  walk_nrm
  refine Ak ?_
  refine By (FZ U C3 (rl tz 1) p1 t1 (rl tz 1) e1 s1 svb D tb mb wm sm last vp num ns hb13 g1 j15 S3.hv S.nv o1.v S3.ht S.nt S.nm kind m p d n ver wt c hm1 hm2 hz1 hz2 Ab Ab) rfl Ac rfl (by walk_nrm) ?_
  rintro y u4 ⟨rfl,⟨l,hl,T4⟩,W4⟩
  walk_nrm
  refine Am ?_
  exact Ez ⟨o5 rfl,rfl,trivial,W4,af ⟨l,hl,T4.from K03⟩⟩
 ·subst hc
  have hok':=E6 rfl
  refine Ex (gf vp) ?_;walk_nrm
  refine Am ?_
  refine Guh ?_
  refine M8j ?_
  have hwrap:IntKind.i64.wrap (num+1)=num+1:=by rw [IntKind.wrap_i64];omega
  refine Ei (I:=F2 u1.heap.size (Dc kind p d n ver) 130 svb (B0 D tb wm sm last vp)) Ac fun d3=>?_
  have hS3':F2 u1.heap.size (Dc kind p d n ver) 130 svb (B0 D tb wm sm last vp) (u3.at d3):=hS3
  refine A6.tp 0 hI (fun _ _ d h=>A8 h d) hS3' ?_;walk_nrm
  refine A6.tp 1 hI (fun _ _ d h=>A8 h d) hS3' ?_;walk_nrm
  refine A6.tp 2 hI (fun _ _ d h=>A8 h d) hS3' ?_;walk_nrm
  refine A6.tp 4 hI (fun _ _ d h=>A8 h d) hS3' ?_;walk_nrm
  refine A6.tp 5 hI (fun _ _ d h=>A8 h d) hS3' ?_;walk_nrm
  refine A6.tp 6 hI (fun _ _ d h=>A8 h d) hS3' ?_;walk_nrm
  refine A6.take (i:=3) (x:=(.agg #[om (lp ⟨D,0,od⟩)])) hI (fun _ _ d h=>A8 h d) rfl Aa Aa Aa (Ge (S:=env Lv) Ac (Dp (fn:=0) Aa) (Bg _ _) ?_) hS3' ?_
  ·exact fun w hw=>TQ hw.2 jv _ _ rfl _ Ac
  walk_nrm
  refine A6.tl 7 hI (fun _ _ d h=>A8 h d) hS3' (fun w (hw:F2 _ _ _ _ _ w)=>(cellOf (j:=1) hw.2 rfl:w.cell? ⟨svb,1,od⟩=lp (om (lp ⟨tb,0,od⟩)))) (jv 1) (fun w (hw:F2 _ _ _ _ _ w)=>ltOf hw.2) ?_;walk_nrm
  refine A6.take (i:=10) (x:=(J4 kind p d n ver)) hI (fun _ _ d h=>A8 h d) rfl Aa Aa Aa (Ge (S:=env Lv) Ac (Dp (fn:=0) Aa) (Bg _ _) ?_) hS3' ?_
  ·exact fun w hw=>Ij hw.1 jc _ _ rfl _ Ac
  walk_nrm
  refine Cb (i:=8) (Fc (f:=31) (args:=#[om (lp ⟨tb,0,od⟩)]) Ad (W3.at d3) (X:=fun _=>False) (R:=fun x _=>x=rl tz num) fun L hs=>?_) Aa rfl Ac rfl (by walk_nrm) ?_
  ·exact(Kb L tb mb num ns ((S3.ht.at d3).sim (W3.at d3).nf hs S.nt S.nm)).mono fun e w' h=>⟨⟨_,h.1,rfl⟩,by rw [h.2];exact Ar.refl _ _⟩
  rintro x u4 ⟨K4',W4,L4,hs4,rfl⟩
  have hS4:=hS3'.kx K4' id id
  refine⟨hS4,?_⟩
  walk_nrm
  have K34:Ar u3 u4 (fun _=>False):=((Ar.refl u3 _).at d3).trans K4'
  have K04:=K03.trans K34
  have C4:=C.kx K04 W4 fun _ h=>h.elim
  have S4:=S.kf K04
  refine A6.take (i:=9) (x:=rl tz (num+1)) hI (fun _ _ d h=>A8 h d) rfl Aa Aa Aa (Yf Ac (fun w=>by walk_nrm;go_simp) (fun w=>by walk_nrm;go_simp)) hS4 ?_
  walk_nrm
  refine Cb (i:=11) (UI U C4 D K lg S4.hd S.gK S.gg Di (num+1) kind p d n ver hkb1 hkb2 Ab Ab hp hpv Ab Ab hnv) Aa rfl Ac rfl (by walk_nrm) ?_
  rintro x u5 ⟨rfl,W5,K5,mm,g,hmm,hg5,H5⟩
  have hltg:∀q,lg=lp q->q.2<u.heap.size:=fun q hq=>by
   have:=S.hd.st
   rw [hq] at this
   obtain⟨_,_,_,_,_,h,_⟩:=this
   exact ltOf h
  have hKb:∃cs,u.heap[K]? = lp (ye cs 52):=by
   have:=S.hd.st
   cases hq:lg with
   | none=>rw [hq] at this;exact⟨_,this⟩
   | some q=>rw [hq] at this;obtain⟨_,_,_,_,h,_⟩:=this;exact⟨_,h⟩
  obtain⟨kcs,hKb⟩:=hKb
  have hgb:∀q,lg=lp q->∃cs,u.heap[q.2]? = lp (ye cs 190):=fun q hq=>by
   have:=S.hd.st
   exact Chy
  have dxBig:∀i,u.heap.size<=i->¬DX K lg i:=by
   rintro i hi (h|⟨q,hq,h⟩)
   ·have:=ltOf hKb;omega
   ·have:=hltg q hq;omega
  have dxC:∀{i:Nat} {cs:Array tj} {ty:TypeId},u.heap[i]? = lp (ye cs ty)->ty≠52->ty≠190->¬DX K lg i:=by
   rintro i cs ty hi h1 h2 (h|⟨q,hq,h⟩)
   ·exact Eu hi hKb (by intro e;injection e with _ e2;exact h1 e2) h
   ·obtain⟨cs',h'⟩:=hgb q hq
    exact Eu hi h' (by intro e;injection e with _ e2;exact h2 e2) h
  have dxM:∀{i:Nat} {es:Array MapEntry} {cl:Nat},u.heap[i]? = lp (.map es cl)->¬DX K lg i:=by
   rintro i es cl hi (h|⟨q,hq,h⟩)
   ·exact Eu hi hKb Ae h
   ·obtain⟨cs',h'⟩:=hgb q hq
    exact Eu hi h' Ae h
  have hu1:u.heap.size<=u1.heap.size:=K1.size
  have dv:=dxC S.hv Ad Ad
  have dt:=dxC S.ht.blk Ad Ad
  have dm:¬DX K lg mb:=let⟨_,_,h⟩:=S.ht.map.obj;dxM h
  have dw:¬DX K lg wm:=let⟨_,_,h⟩:=Bm.obj S.hw;dxM h
  have ds:¬DX K lg sm:=let⟨_,_,h⟩:=S.hm.obj;dxM h
  have d1:=dxC B9 Ad Ad
  have d2':=dxC Fs Ad Ad
  have hS5:=hS4.kx K5 (dxBig _ hu1) dv
  refine⟨hS5,?_⟩
  walk_nrm
  refine A6.tp 12 hI (fun _ _ d h=>A8 h d) hS5 ?_;walk_nrm
  refine Ybw ?_
  refine Guh ?_
  refine Aw ?_
  have K05:Ar u u5 (DX K lg):=(K04.mono fun _ h=>h.elim).trans K5
  have hu4:u.heap.size<=u4.heap.size:=K04.size
  have hgg':∀q,Hs lg mm g=lp q->gN<=q.2:=fun q hq=>by
   cases lg with
   | none=>simp only [Hs,aL] at hq;subst hq;have:=C.sz;simp only;omega
   | some r=>simp only [Hs,aL] at hq;subst hq;exact S.gg r rfl
  have S5:Qr Bs gN u5 svb D K tb mb wm sm s1 s2 (Hs lg mm g) last num ns ks:=⟨K05.get S.hv dv,S.ht.kx K05 dt dm,S.tk,S.hw.keep (K05.block _ (Bm.lt S.hw) dw),S.hm.of_block (K05.block _ S.hm.lt ds),H5,S.nv,S.nt,S.nm,S.nw,S.nsm,S.gv,S.gt,S.gm,S.gw,S.gK,hgg',S.wmb,S.wsm,S.mbs⟩
  have gX:∀i,DX K lg i->gN<=i:=by
   rintro i (rfl|⟨q,hq,rfl⟩)
   ·exact S.gK
   ·exact S.gg q hq
  have C5:=C.kx K05 W5 gX
  have htm:mb≠tb:=Fz S.ht.map S.ht.blk
  refine Ei (I:=F2 u1.heap.size (Dc kind p d n ver) 130 svb (B0 D tb wm sm last vp)) Ac fun d5=>?_
  have hS5':F2 u1.heap.size (Dc kind p d n ver) 130 svb (B0 D tb wm sm last vp) (u5.at d5):=hS5
  refine A6.tp 0 hI (fun _ _ d h=>A8 h d) hS5' ?_;walk_nrm
  refine A6.tp 1 hI (fun _ _ d h=>A8 h d) hS5' ?_;walk_nrm
  refine A6.tp 2 hI (fun _ _ d h=>A8 h d) hS5' ?_;walk_nrm
  refine A6.tl 3 hI (fun _ _ d h=>A8 h d) hS5' (fun w (hw:F2 _ _ _ _ _ w)=>(cellOf (j:=1) hw.2 rfl:w.cell? ⟨svb,1,od⟩=lp (om (lp ⟨tb,0,od⟩)))) (jv 1) (fun w (hw:F2 _ _ _ _ _ w)=>ltOf hw.2) ?_;walk_nrm
  refine A6.take (i:=4) (x:=(J4 kind p d n ver)) hI (fun _ _ d h=>A8 h d) rfl Aa Aa Aa (Ge (S:=env Lv) Ac (Dp (fn:=0) Aa) (Bg _ _) ?_) hS5' ?_
  ·exact fun w hw=>Ij hw.1 jc _ _ rfl _ Ac
  walk_nrm
  refine Cb (i:=5) (doV (C5.kx ((Ar.refl u5 (fun _=>False)).at d5) (W5.at d5) fun _ h=>h.elim) tb mb num ns (S5.ht.at d5) S.nt S.nm htm S.tk hnum kind hk p d n ver Ab hsl hok') Aa rfl Ac rfl (by walk_nrm) ?_
  rintro x u6 ⟨K6',W6,ns',ht6,tk6,hx6⟩
  have K56:Ar u5 u6 (fun i=>i=tb∨i=mb):=((Ar.refl u5 _).at d5).trans K6'
  have htb5:=ltOf S5.ht.blk
  have tl:=ltOf S.ht.blk
  have ml:=S.ht.map.lt
  have hS6:=hS5'.kx K6' Ab (by rintro(h|h);exact Eu S.hv S.ht.blk Ae h;exact Fz S.ht.map S.hv h.symm)
  refine⟨hS6,?_⟩
  walk_nrm
  refine Ybw ?_
  refine Fck ?_
  refine Ak ?_
  refine Ef (S:=env Lv) (fn:=100) rfl Ac (Dp Aa) (Bg _ _) (x:=J4 kind p d n ver) (v':=u6) (fun d'=>(Ij (J:=J) (w:=u6.at d') hS6.1 jc _ _ rfl _ Ac).1) (fun d'=>(Ij (J:=J) (w:=u6.at d') hS6.1 jc _ _ rfl _ Ac).2) ?_
  walk_nrm
  have x1:¬(svb=tb∨svb=mb):=by rintro(h|h);exact Eu S.hv S.ht.blk Ae h;exact Fz S.ht.map S.hv h.symm
  have xw:¬(wm=tb∨wm=mb):=by rintro(h|h);exact Fz S.hw S.ht.blk h;exact S.wmb h
  have xs:¬(sm=tb∨sm=mb):=by rintro(h|h);exact Fz S.hm S.ht.blk h;exact S.mbs h.symm
  have xD:¬(D=tb∨D=mb):=by rintro(h|h);exact Eu S.hd.dsk S.ht.blk Ae h;exact Fz S.ht.map S.hd.dsk h.symm
  have xK:¬(K=tb∨K=mb):=by rintro(h|h);exact Eu hKb S.ht.blk Ae h;exact Fz S.ht.map hKb h.symm
  have xg:∀q,Hs lg mm g=lp q->¬(q.2=tb∨q.2=mb):=fun q hq=>by
   have hb5:∃cs,u5.heap[q.2]? = lp (ye cs 190):=by
    have:=H5.st
    exact Chy
   obtain⟨cs,hb5⟩:=hb5
   rintro(h|h)
   ·exact Eu hb5 S5.ht.blk Ae h
   ·exact Fz S5.ht.map hb5 h.symm
  have y1:¬(s1=tb∨s1=mb):=by rintro(h|h);exact o1.t h.symm;exact o1.m h.symm
  have y2:¬(s2=tb∨s2=mb):=by rintro(h|h);exact o2.t h.symm;exact o2.m h.symm
  have S6:Qr Bs gN u6 svb D K tb mb wm sm s1 s2 (Hs lg mm g) last (num+1) ns' ks:=⟨K56.get S5.hv x1,ht6,tk6,S5.hw.keep (K56.block _ (Bm.lt S5.hw) xw),S5.hm.of_block (K56.block _ S5.hm.lt xs),H5.kx K56 xD xK xg,S.nv,S.nt,S.nm,S.nw,S.nsm,S.gv,S.gt,S.gm,S.gw,S.gK,hgg',S.wmb,S.wsm,S.mbs⟩
  have K06:Ar u u6 (fun i=>i=tb∨i=mb∨DX K lg i):=(K05.mono fun _ h=>o5 (o5 h)).trans (K56.mono fun _ h=>h.elim af fun h=>o5 (af h))
  have C6:=C.kx K06 W6 (by rintro i (rfl|rfl|h);exact S.gt;exact S.gm;exact gX i h)
  have hb16:u6.heap[s1]? = lp (ye (Bl (rl tz 1) p1 t1 (rl tz 1) e1 (cf od 0 0)) 75):=K56.get (K05.get B9 d1) y1
  have hb26:u6.heap[s2]? = lp (ye (Bl n2 p2 t2 v2 e2 (cf od 0 0)) 75):=K56.get (K05.get Fs d2') y2
  have hr6:u6.heap[u.heap.size]? = lp (ye (Bb kind m p d n ver wt) 119):=K56.get (K5.get (K34.get hr3 id) (dxBig _ (aA _))) Ab
  have hz1':-9223372036854775808<=num+1:=Ab
  have hz2':num+1<=9223372036854775807:=Ab
  obtain⟨T0,hTT⟩:=UX hk
  have hno1:∀x∈TT kind,Dw 1 (if x.2.1 then Ds p else p) x.1∉ks:=WI hk hks (fun h=>by
   rcases hks with h'|⟨P0,h'⟩
   ·rw [h'] at h;cases h
   ·rw [h'] at h
    simp at h)
  refine By (Vw U C6 svb D tb mb wm sm s1 s2 last vp (num+1) ns' n2 p2 t2 v2 e2 hb26 g2 j25 S6.hv S.nv o2.v S6.ht S.nt S.nm hz1' hz2' S6.hm S.nsm ks S6.hw S.nw S.gw o2.w (Fz S.hw S.hv) (fun h=>xw (af h)) (fun h=>xw (o5 h)) S.wsm kind Ia (TT kind) (Aab hk) (fun L hL=>UW hL hk) (Ab8 hk) p d n ver hp hpv hsl hno1 (by
   by_cases hh:ks = [Dw 2 p 0]
   ·exact o5 ⟨kind,T0,hTT,hh,hkb1,hkb2⟩
   ·exact af (WI hk hks hh))) rfl Ac rfl (by walk_nrm) ?_
  rintro x u7 ⟨rfl,W7,hcase7⟩
  walk_nrm
  refine Am ?_
  obtain⟨ks',S7,K67,Gr⟩:∃ks',Qr Bs gN u7 svb D K tb mb wm sm s1 s2 (Hs lg mm g) last (num+1) ns' ks'/\Ar u6 u7 (fun i=>i=s2∨i=wm)/\((ks≠[Dw 2 p 0]/\ks'=ks/\u7.heap[s2]? = u6.heap[s2]?)∨(ks = [Dw 2 p 0]/\ks' = []/\Ov u7 u6.heap.size s2 n2 p2 t2 v2 e2 (BC (num+1) kind p))):=by
   rcases hcase7 with⟨hn2,Kn⟩|⟨what,T1,hTT',hks',Kh,hwh,ov,l,rfl,ho1,ho2⟩
   ·refine⟨ks,S6.kf Kn,Kn.mono fun _ h=>h.elim,af ⟨fun h=>?_,rfl,Kn.block _ (ltOf hb26) id⟩⟩
    have:=hn2 (0,vp,(kind:Int)) (by rw [hTT];exact eI)
    simp only [aV,bQ] at this
    exact this (by rw [h];exact dH.2 rfl)
   ·have hwk:what=kind:=by
     rw [hTT] at hTT'
     injection hTT' with h1 _
     injection h1 with _ h2
     injection h2 with _ h3
     exact h3.symm
    subst hwk
    have z:∀{b:Nat},b≠s2->b≠wm->¬(b=s2∨b=wm):=fun h1 h2 h=>h.elim h1 h2
    refine⟨[],⟨Kh.get S6.hv (z o2.v (fun h=>Fz S.hw S.hv h.symm)),S6.ht.kx Kh (z o2.t (fun h=>xw (af h.symm))) (z o2.m (fun h=>S.wmb h.symm)),tk6,hwh,S6.hm.of_block (Kh.block _ S6.hm.lt (z o2.s (fun h=>S.wsm h.symm))),S6.hd.kx Kh (z o2.d (fun h=>Fz S.hw S.hd.dsk h.symm)) (z o2.k (fun h=>Fz S.hw hKb h.symm)) (fun q hq=>?_),S.nv,S.nt,S.nm,S.nw,S.nsm,S.gv,S.gt,S.gm,S.gw,S.gK,hgg',S.wmb,S.wsm,S.mbs⟩,Kh,o5 ⟨hks',rfl,ov,ho1,ho2⟩⟩
    have hb6:∃cs,u6.heap[q.2]? = lp (ye cs 190):=by
     have:=S6.hd.st
     exact Chy
    obtain⟨cs,hb6⟩:=hb6
    exact z (Eu hb6 hb26 Ae) (fun h=>Fz S6.hw hb6 h.symm)
  have C7:=C6.kx K67 W7 (by rintro i (rfl|rfl);exact g2;exact S.gw)
  have hb17:u7.heap[s1]? = lp (ye (Bl (rl tz 1) p1 t1 (rl tz 1) e1 (cf od 0 0)) 75):=K67.get hb16 (fun h=>h.elim h12 (fun h=>o1.w h.symm))
  have hu6:u.heap.size<=u6.heap.size:=K06.size
  have wl:=Bm.lt S.hw
  have sl:=ltOf Fs
  have sl1:=ltOf B9
  have hr7:u7.heap[u.heap.size]? = lp (ye (Bb kind m p d n ver wt) 119):=K67.get hr6 Ab
  have hc7:u7.heap[u1.heap.size]? = lp (ye (Dc kind p d n ver) 130):=K67.get hS6.1 Ab
  have hI9:=Wu.at (rb:=u.heap.size) (rc:=Bb kind m p d n ver wt) (cb:=u1.heap.size) (cc:=Dc kind p d n ver)
  refine Ei (I:=Wu u.heap.size (Bb kind m p d n ver wt) u1.heap.size (Dc kind p d n ver)) Ac fun d7=>?_
  have hS7:Wu u.heap.size (Bb kind m p d n ver wt) u1.heap.size (Dc kind p d n ver) (u7.at d7):=⟨hr7,hc7⟩
  have hQ:∀(a:Act) (w:qq) (d':Nat),((kr=kr∨kr=Exit.ret)/\a.defers = []/\True/\VW J Bs w/\((∃l:List UInt8,20<=l.length/\Told u w s1 (rl tz 1) p1 t1 (rl tz 1) e1 l)∨R0 Bs gN u w svb D K tb mb wm sm s1 s2 lg last num ks p1 t1 e1 n2 p2 t2 v2 e2 kind p))->((kr=kr∨kr=Exit.ret)/\a.defers = []/\True/\VW J Bs (w.at d')/\((∃l:List UInt8,20<=l.length/\Told u (w.at d') s1 (rl tz 1) p1 t1 (rl tz 1) e1 l)∨R0 Bs gN u (w.at d') svb D K tb mb wm sm s1 s2 lg last num ks p1 t1 e1 n2 p2 t2 v2 e2 kind p)):=fun a w d' ⟨h1,h2,h3,h4,h5⟩=>⟨h1,h2,h3,h4.at d',h5.imp (fun⟨l,hl,h⟩=>⟨l,hl,h.at d'⟩) fun h=>h.at d'⟩
  refine A6.tp 0 hI9 hQ hS7 ?_;walk_nrm
  refine A6.tp 1 hI9 hQ hS7 ?_;walk_nrm
  refine A6.tp 3 hI9 hQ hS7 ?_;walk_nrm
  refine A6.take (i:=2) (x:=(Mv kind m p d n ver wt)) hI9 hQ rfl Aa Aa Aa (Ge (S:=env Lv) Ac (Dp (fn:=0) Aa) (Bg _ _) ?_) hS7 ?_
  ·exact fun w hw=>Fx hw.1 jr _ _ rfl _ Ac
  walk_nrm
  refine A6.take (i:=4) (x:=(J4 kind p d n ver)) hI9 hQ rfl Aa Aa Aa (Ge (S:=env Lv) Ac (Dp (fn:=0) Aa) (Bg _ _) ?_) hS7 ?_
  ·exact fun w hw=>Ij hw.2 jc _ _ rfl _ Ac
  walk_nrm
  have Gw:∀(u8 u9:qq) (l:List UInt8),Ar u7 u8 (fun _=>False)->20<=l.length->Told u8 u9 s1 (rl tz 1) p1 t1 (rl tz 1) e1 l->R0 Bs gN u u9 svb D K tb mb wm sm s1 s2 lg last num ks p1 t1 e1 n2 p2 t2 v2 e2 kind p:=by
   intro u8 u9 l K8 hl T9
   have K9:=T9.kept
   have S8:=S7.kf K8
   have hs1:∀{b:Nat},b≠s1->¬b=s1:=fun h=>h
   have hb26':u8.heap[s1]? = lp (ye (Bl (rl tz 1) p1 t1 (rl tz 1) e1 (cf od 0 0)) 75):=K8.get hb17 id
   have o8:=S8.off hb26'
   have S9:Qr Bs gN u9 svb D K tb mb wm sm s1 s2 (Hs lg mm g) last (num+1) ns' ks':=S8.kx K9 o8.v o8.t o8.m o8.w o8.s o8.d o8.k o8.g
   obtain⟨ov,h1,h2⟩:=T9.out
   have hu8:u.heap.size<=u8.heap.size:=aE hu6 (aE K67.size K8.size)
   refine⟨⟨Hs lg mm g,ns',ks',S9,?_,?_⟩,?_,l,hl,ov,h1,Df h2 hu8⟩
   ·cases lg <;> simp [Hs,M7] <;> omega
   ·rcases Gr with⟨h1,h2,h3⟩|⟨h1,h2,h3⟩
    ·refine af ⟨h1,h2,?_⟩
     rw [K9.block s2 (by have:=K67.size;have:=K8.size;omega) (bW h12),K8.block s2 (by have:=K67.size;omega) id,h3,hb26,Fs]
    ·refine o5 ⟨h1,h2,?_⟩
     obtain⟨ov,a1,a2⟩:=(h3.kx K8 id (fun _ _=>id)).kx K9 (bW h12) (fun i hi=>Ab)
     exact⟨ov,a1,Df a2 hu6⟩
   ·refine⟨K9.os.trans (K8.os.trans (K67.os.trans K06.os)),K9.tape.trans (K8.tape.trans (K67.tape.trans K06.tape)),K9.output.trans (K8.output.trans (K67.output.trans K06.output)),aE hu8 K9.size,fun k hk hx=>?_⟩
    rw [K9.block k (aB hk hu8) (fun h=>hx (o5 (o5 (o5 (af h))))),K8.block k (aB hk (aE hu6 K67.size)) id,K67.block k (aB hk hu6) (fun h=>hx (h.elim (fun h=>o5 (o5 (o5 (o5 (af h))))) (fun h=>o5 (o5 (o5 (o5 (o5 h))))))),K06.block k hk (fun h=>hx (h.elim af fun h=>o5 (h.elim af fun h=>o5 (af h))))]
  rcases hk with rfl|rfl|rfl
  ·refine Cb (i:=5) (JC U (C7.kx ((Ar.refl u7 (fun _=>False)).at d7) (W7.at d7) fun _ h=>h.elim) svb D tb mb wm sm last vp (num+1) ns' (show(u7.at d7).heap[svb]? = _ from S7.hv) S.nv (S7.ht.at d7) S.nt S.nm tk6 p d n ver) Aa rfl Ac rfl (by walk_nrm;try rfl) ?_
   rintro lv u8 ⟨K8',W8,hvs⟩
   have hS8:=hS7.kx K8' id id
   refine⟨hS8,?_⟩
   refine D3e ?_;intro K8 C8 S8
   have Ih:=puts_path valid (m:=m) (z:=num+1) (e:=0) (p:=p) hm1 hm2 hz1' hz2' Ad Ad hp hpv
   refine Cb (i:=6) (Sl U C8 (rl tz 1) p1 t1 e1 s1 svb D tb mb wm sm last vp (num+1) ns' (K8.get hb17 id) g1 j13 j15 S8.hv S.nv o1.v S8.ht S.nt S.nm 1 Ad m p d n ver wt _ (fun L hL=>hL.an1) [txt p] lv Ae Ae hvs _ parse_path _ Ih (by simp [be_length];omega) (by simp [be_length];omega)) Aa rfl Ac rfl (by walk_nrm;try rfl) ?_
   exact S3m
  ·refine Cb (i:=5) (JD U (C7.kx ((Ar.refl u7 (fun _=>False)).at d7) (W7.at d7) fun _ h=>h.elim) svb D tb mb wm sm last vp (num+1) ns' (show(u7.at d7).heap[svb]? = _ from S7.hv) S.nv (S7.ht.at d7) S.nt S.nm tk6 p d n ver) Aa rfl Ac rfl (by walk_nrm;try rfl) ?_
   rintro lv u8 ⟨K8',W8,rfl⟩
   have hS8:=hS7.kx K8' id id
   refine⟨hS8,?_⟩
   refine D3e ?_;intro K8 C8 S8
   have Ih:=puts_error valid (m:=m) (z:=num+1) (e:=0) hm1 hm2 hz1' hz2' Ad Ad
   refine Cb (i:=6) (Sl U C8 (rl tz 1) p1 t1 e1 s1 svb D tb mb wm sm last vp (num+1) ns' (K8.get hb17 id) g1 j13 j15 S8.hv S.nv o1.v S8.ht S.nt S.nm 2 Ad m p d n ver wt _ (fun L hL=>hL.an2) [] (cf od 0 0) (fun _=>rfl) Ae (.nil _ _) _ parse_error _ Ih (by simp [be_length]) (by simp [be_length])) Aa rfl Ac rfl (by walk_nrm;try rfl) ?_
   exact S3m
  ·obtain⟨x3,hx3⟩:=hx6 rfl
   refine Cb (i:=5) (JF U (C7.kx ((Ar.refl u7 (fun _=>False)).at d7) (W7.at d7) fun _ h=>h.elim) svb D tb mb wm sm last vp (num+1) ns' (show(u7.at d7).heap[svb]? = _ from S7.hv) S.nv (S7.ht.at d7) S.nt S.nm tk6 p d n ver hpa Ab x3 hx3) Aa rfl Ac rfl (by walk_nrm;try rfl) ?_
   rintro lv u8 ⟨K8',W8,ck,hck,hvs⟩
   have hS8:=hS7.kx K8' id id
   refine⟨hS8,?_⟩
   refine D3e ?_;intro K8 C8 S8
   obtain⟨q1,q2,q3,q4,q5,q6⟩:=tk6.node _ hx3
   simp only at q1 q2 q3 q4 q5 q6
   have hlen6:=tk6.len
   have Ih:=puts_state valid (m:=m) (z:=num+1) (e:=0) (a:=x3.made) (b:=x3.changed) (c:=x3.version) (d:=ck) hm1 hm2 hz1' hz2' Ad Ad Ab Ab Ab Ab Ab Ab Ab Ab
   refine Cb (i:=6) (Sl U C8 (rl tz 1) p1 t1 e1 s1 svb D tb mb wm sm last vp (num+1) ns' (K8.get hb17 id) g1 j13 j15 S8.hv S.nv o1.v S8.ht S.nt S.nm 3 Ad m p d n ver wt _ (fun L hL=>hL.an3) [.mk 0 ⟨#[]⟩ [Orch.num x3.made,Orch.num x3.changed,Orch.num x3.version,Orch.num ck]] lv Ae Ae hvs _ parse_state _ Ih (by simp [be_length]) (by simp [be_length])) Aa rfl Ac rfl (by walk_nrm;try rfl) ?_
   exact S3m
end
end Go.Proofs.YtjoblhlkfmeckaaGreatDoor
