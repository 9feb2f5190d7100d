import Derived.Test.YtnepogbkiocdhaaGreatDoorQ15
open List renaming length->iY
open Array renaming size->iZ
set_option maxHeartbeats 4000000
set_option maxRecDepth 8000
set_option linter.all false
open Option renaming some->je,none->zt
open Bool renaming true->jz,false->vy
open Go.Proofs.Tryz renaming prog->ow
open Go renaming World->qi,Value->p8,Addr->uw,results->yo,Goroutine->gy,heap_alloc_new->iy
open Go.Value renaming pointer->vp,int->wy,bool->o0,tuple->gq
open Go.MapKept renaming Stamped->xu
open Go.Obj renaming cells->pf
open Go.IntKind renaming i64->yh
open Or renaming inl->zk,inr->qx
open Go renaming iW->Y,HZ->Q,iS->k,Ae->Z,Aa->S,Ac->W
open Go
open Go.Proofs.Tryz
variable {C D K M d i m sm y:Nat}{F:iI}{I a b:iM}{N:gy->qi->Prop}{O h u:qi}{c:iG}{f z:Nat->p8×p8}{left n:Int}{o:iD}{p:Prop}{q x:iE}{s:iF}
def Uuq{q:Prop}(k:q)(h:Hd q->p:=by
 intro kz;refine Dw (#[Value.pointer none]) 86 ?_;walk_nrm;have v:=Bi Z #[Value.pointer none] 86 iV;have b2:(Z.alloc (.cells #[.pointer none] 86)).1[Z.1.size]?=some (.cells #[.pointer none] 86):=heap_alloc_new _ _;generalize Z.alloc (.cells #[.pointer none] 86)=u2 at v b2⊢;refine Yb Z.1.size D b2 iW Ac (B1 Ab) iW Ac Ac ?_;revert u2 v b2;exact kz.1):p:=h ⟨k⟩
def Qc8{q:Prop}(k:q)(h:Hd q->p:=by
 intro kz;refine Bh Tryz.func9 Ac iW (λ_ _=>results_tmp Ac _ _ _) (λ_ _=>events_results_tmp Ac _ _) ?_;simp only[Tryz.ntmps9,na,Nat.reduceAdd,Nat.reduceSub];exact kz.1):p:=h ⟨k⟩
def Shw(h:p:=by
 iterate 2(refine Ar ?_;walk_nrm)
 refine Au ?_;simp only[Az,As];exact Ca ⟨.inr iW,iW,⟨_,iW⟩,(k.trans J).trans v⟩):p:=h
namespace Go.Proofs.Y
variable {A B:SA}{L:List Fl}{e g:ST}{j se:List SI}{l:List AS}{r:List Rc}{t:Tr}
open Go Go.Conc Go.Pair Go.RowKit Go.Maps
def Bw.ne{w tb t r}(h:Bw w tb t n r):t≠tb:=by rintro rfl;have C:=h.1;have ⟨⟨m,k,L,_⟩,_⟩:=h.2;grind
section
variable {u:Tr}
def DI.snapT{S}(D:DI L u r x)(H:NK n S):DI (wo (wo (wo L Cp) Fu++[⟨Fu,⟨(Ei n S).toArray⟩,(⟨(Ei n S).toArray⟩:iF).size⟩]) J6) (Sk n S) [] []:=by refine⟨(((D.1.wo Cp).wo Fu).add λg G=>(Ga.1 G).2).wo J6,λf I=>?_,qx ⟨_,S,⟨Ga.2 ⟨bC.2 (qx (dJ.2 Y)),O3.symm⟩,Y⟩,Y,Y,H,Y⟩,zk ⟨λf I=>(Ga.1 I).2,Y,Y⟩⟩;obtain I|I:=bC.1 (Ga.1 I).1;exact D.2 f (Ga.1 (Ga.1 I).1).1;grind
def Z6.refl(h:Dz t):Z6 t t:=⟨Y,.refl _,h.nd⟩
def RA{a}(Y:∀c∈r,Kf a c):∀{t},Dz t->Dz (replay r t):=by induction r with|nil=>exact λh=>h|cons c r O=>exact λh=>O (λB n=>Y B (cJ _ n)) (h.rc (Y c cG))
end
section
variable {Post:PA y F}
def Mx.kx{X}(h:Mx u D K left L a m)(k:Ax u O X)(b:¬X D)(p:¬X K)(I:∀g,Cl a=je g->¬X g):Mx O D K left L a m:=⟨k.get h.hD b,h.st.kx k p I,h.l0,h.l1⟩
def Mx.lt(h:Mx u D K left L a m){g}(e:Cl a=je g):g<iZ u.1:=by have ⟨cs,f⟩:=Ex h.2.2 ((Of a _ _).trans e);exact ltOf f
structure Aso(o:iD)(u u' D K L a tb mb)(t:Tr)(L' Ec Hl):Prop where
 tr:Bw u' tb mb t.1 t.2
 d:Mx u' D K (-1) L' Ec Hl
 di:∃t1,DI L' t1 [] []/\Dz t1/\Z6 t1 t
 g:I8 u u' K (Cl a) (Cl Ec)
 b1:iZ u.1<=tb
 b2:iZ u.1<=mb
 len:iY L'<=iY L+1
 sz:∀f∈L',f∈L∨f.d.size<=40000
 nil:L = []->L' = []
theorem Ake(aa:Hq o F)(a6:o iU=jz)(b7:∀p,Em p=jz->p.size<=200->o p=jz->Jr o p)(ah:∀w,F w->E8 w)(ab:∀p,Em p=jz->o p=jz)(C:Cx F y Dy iV u)(Gl:∀ai<8,∃ad e f,u.1[ai]?=je (pf ad e f))(i:Mx u D K (-1) L a m)(gD:y<=D)(gK:y<=K)(gf:∀g,Cl a=je g->y<=g)(hL:iY L<=900000)(hd:∀f∈L,f.d.size<=1000000000000){c:Tr}{b:List Rc}(n:DI L c r x)(h0:Dz c)(hC:Hf [] (Qb r++x) (b.map Rc.body) q vy)(hr:∀ad∈b,Kf o ad):Ba ow jz Dy (Pq Post) 42 #[HZ D] u λk u'=>∃tb U L' Ec Hl,k=gq #[.agg #[HZ D],HZ tb,o0 jz]/\Aso o u u' D K L a tb U (replay b c) L' Ec Hl:=by
 have bg:=C.5;have bh:=C.4;have lD:=ltOf i.1;have lK:=ltOf i.2.1;have lf:∀g,Cl a=je g->g<iZ u.1:=λg e=>i.lt e;refine Ht func42 Ac iW ?_;simp only[ntmps42,na,Nat.reduceAdd,Nat.reduceSub];refine G9s ?_;refine Dw (#[vp zt]) 86 ?_;walk_nrm;have K1:=Bi u #[vp zt] 86 iV;have z:(u.alloc (pf #[vp zt] 86)).1[iZ u.1]?=je (pf #[vp zt] 86):=iy _ _;generalize u.alloc (pf #[vp zt] 86)=Z at K1 z⊢;refine Wad ?_;refine K9h ?_;refine G9s ?_;refine Wad ?_;refine Uuq λu2 v b2=>?_;intro u3 W M;walk_nrm;refine K9h ?_;have bj:=K1.4;have bk:=v.4;have l1:=ltOf z;have l2:=ltOf b2;have bm:=W.4;have N:Ax u u3 iV:=(K1.trans v).trans' W λj h En=>Aa;have b8:u3.1[iZ u.1]?=je (pf #[vp zt] 86):=W.get (v.get z id) Aa;refine G9s ?_;refine Ks Z.1.size D (zk iW) M iW Ac (B1 Ab) iW Ac λY I=>?_;walk_nrm;have X:=N.trans I;refine A0 (Ak3 aa a6 ah ab (C.kf X) (i.kf X) Aa n.1 n.3) iW Ac iW Af ?_;rintro k u4⟨tb,U,rfl,O⟩;walk_nrm;refine T03 ?_;have Q:=I.trans O.K;have bn:=I.4;have aj:=Q.get M id;have ba:=Q.get b8 id;have bo:=N.4;have bq:=Q.4;have br:=O.3;have bu:=O.4;have bb:=N.trans Q;refine G9s ?_;refine Ks Z.1.size D (zk iW) aj iW Ac (B1 Ab) iW Ac λbw V=>?_;walk_nrm;refine V2g ?_;have a8:=bb.trans V;have bx:=V.4;refine A0 (Ant (Post:=Post) aa a6 b7 (C.kf a8) (J3 Gl a8 λ_ h=>h.elim) (i.kf a8) Aa n.1 n.4 hC hr h0 (O.t.kx V id id) Aa Aa O.t.ne) iW Ac iW Af ?_;rintro k u5⟨rfl,T5,G5,K5⟩;walk_nrm;refine K9h ?_;have bz:=K5.4;have n0:∀j<iZ Y.1,¬(j=tb∨j=U):=λj l e=>Aa;have T:Ax u u5 iV:=a8.trans' K5 λj h l=>Aa;have d5:=i.kf T;have C5:=C.kf T;have bc:=K5.get (V.get aj id) (n0 _ Aa);have bd:=K5.get (V.get ba id) (n0 _ Aa);refine Ne8 ?_;refine Mwc ?_;refine A0 (As0 d5 Aa J6) iW Ac iW Ah ?_;rintro k A⟨⟨a7,G,rfl⟩,J⟩;walk_nrm;have s:=T.trans J;have T6:=T5.kx J id id;have ae:=J.get bc id;have ak:=J.get bd id;have c6:=J.4;rcases a7 with _|f;case' none=>(obtain⟨rfl,rfl⟩:r = []/\x = []:=by rcases n.4 with⟨_,d,h2⟩|⟨f,d,_⟩;exact⟨d,h2⟩;cases n.1.eq G d);(obtain rfl:b = []:=by have d:Hf [] [] (b.map Rc.body) q vy:=hC;generalize hB:b.map Rc.body=B at d;cases d with|done=>exact List.map_eq_nil_iff.1 hB|body h _ _ _=>exact absurd iW h|more h _ _ _=>exact absurd iW h);refine V2g ?_;(iterate 4 (refine E11 ?_));refine Trb ?_;refine A0 (Xg (i.kf s)) iW Ac iW Af ?_;rintro k b6⟨rfl,E⟩;walk_nrm;refine T03 ?_;refine Nvt ?_;have H:=E.get ae id;have al:=E.get ak id;have T8:=T6.kx E id id;have d8:=(i.kf s).kf E;have g8:I8 u b6 K (Cl a) (Cl a):=(I8.kf s).trans (I8.kf E);have ao:∀g,Cl a=je g->Cl a=je g∨iZ A.1<=g:=λg e=>zk e;have aq:∃t,DI L t [] []/\Dz t/\Z6 t (replay [] c):=⟨c,n,h0,Z6.refl h0⟩;have ar:iY L<=iY L+1:=Aa;have au:∀f∈L,f∈L∨f.d.size<=40000:=λf h=>zk h;have e8:=E.4
 case' some=>refine V2g ?_;refine Ks Z.1.size D (zk iW) ae iW Ac (B1 Ab) iW Ac λc7 R=>?_;walk_nrm;refine V2g ?_;have af:=s.trans R;refine A0 (ZC (Post:=Post) aa a6 ah ab (C.kf af) (i.kf af) hL hd (T6.kx R id id) G5) iW Ac iW Af ?_;rintro k u7⟨aw,Ce,L8,ax,c9,az,rfl,hp,bf,b5,av,S,cc⟩;walk_nrm;(obtain rfl:Ce = -1:=by have:=av.3;omega);(obtain rfl:aw=jz:=by cases aw with|true=>rfl|false=>exact absurd (b5.2 iW) Ad);have a1:=G5.sorted hp bf;have P:=b5.p;unfold ZD at P;simp only[Bool.true_eq_false,false_and,false_or,true_and]at P;refine Ldr ?_;refine A0 (Xg av) iW Ac iW Af ?_;rintro k b6⟨rfl,E⟩;walk_nrm;refine T03 ?_;refine Nvt ?_;have ay:=R.4;(have n7:∀j,iZ u.1<=j->¬(j=K∨Cl a=je j):=λj l e=>e.elim (λe=>Aa) λe=>by have:=lf j e;omega);have H:=E.get (S.k.get (R.get ae id) (n7 _ Aa)) id;have al:=E.get (S.k.get (R.get ak id) (n7 _ Aa)) id;have T8:=((T6.kx R id id).kx S.k (n7 _ Aa) (n7 _ Aa)).kx E id id;have d8:=av.kf E;have g8:I8 u b6 K (Cl a) (Cl ax):=((I8.kf af).trans S).trans (I8.kf E);have ao:∀g,Cl ax=je g->Cl a=je g∨iZ A.1<=g:=λg e=>(S.2 g e).imp id λh=>aD ay h;have aq:∃t,DI L8 t [] []/\Dz t/\Z6 t (replay b c):=⟨Sk (replay b c).1 az,by rw[P];exact n.snapT a1.1,a1.1.tree G5.2,a1.2⟩;(have ar:iY L8<=iY L+1:=by rw[P];refine aD (Sn _ _) ?_;rw[aH];have d:=Sn (wo L Cp) Fu;have h2:=Sn L Cp;simp;omega);(have au:∀f∈L8,f∈L∨f.d.size<=40000:=λf hf=>by rw[P]at hf;rcases bC.1 (Ga.1 hf).1 with d|d;exact zk (Ga.1 (Ga.1 d).1).1;right;simp at d;subst d;have:=BW (n:=(replay b c).1) a1.1.2 (a1.1.ok a6 ab);show(Ei (replay b c).1 az).toArray.size<=40000;unfold Ei;simp[Orch.be_length];omega);have e8:=E.4;have e7:=S.k.4
 all_goals refine G9s ?_;refine Ks Z.1.size D (zk iW) H iW Ac (B1 Ab) iW Ac λcd S8=>?_;walk_nrm;refine V2g ?_;refine Yb u.1.size D (S8.get al id) iW Ac (B1 Ab) iW Ac Ac λu9 K9 b9=>?_;walk_nrm;refine Wad ?_;refine K9h ?_;have e9:=S8.4;refine Ca ⟨qx iW,iW,gq #[.agg #[HZ D],HZ tb,o0 jz],λi=>?_,λi e he=>?_,tb,U,_,_,_,iW,(T8.kx S8 id id).kx K9 (show ¬tb=iZ u.1 by omega) (show ¬U=iZ u.1 by omega),(d8.kf S8).kx K9 (show ¬D=iZ u.1 by omega) (show ¬K=iZ u.1 by omega) (λg e (h:g=iZ u.1)=>?_),aq,⟨(g8.k.trans (S8.mono λ_ h=>h.elim)).trans' K9 λj h l=>absurd h (Nat.ne_of_lt l),g8.2⟩,Aa,Aa,ar,au,by first|exact id|(intro e;subst e;cases G.1)⟩;have c8:=Kj (w:=(u9.at i)) 0 b9;simp[yo,results42,go_sem,c8];have c8:=Kj (w:=(u9.at i)) 0 b9;simp[yo,results42,go_sem,c8]at he;subst he;exact Co (X5 _);rcases ao g e with d|d;have:=lf g d;omega;omega
end
section
variable {Post:PA y F} {U:qi} {fa:iM}
structure Z7(u O:qi)(svb D K:Nat)(L fa wm sm tb mb)(t:Tr)(L' Ec Hl):Prop where
 hv:O.1[svb]?=je (pf (Cc D tb wm sm 0 vy) 92)
 ht:Bw O tb mb t.1 t.2
 hw:Pm O wm []
 hm:Bq ow 3 O sm []
 d:Mx O D K (-1) L' Ec Hl
 di:∃t1,DI L' t1 [] []/\Dz t1/\Z6 t1 t
 g:I8 u O K (Cl fa) (Cl Ec)
 len:iY L'<=iY L+1
 sz:∀f∈L',f∈L∨f.d.size<=40000
 nil:L = []->L' = []
 gv:iZ u.1<=svb
 gt:iZ u.1<=tb
 gm:iZ u.1<=mb
 gw:iZ u.1<=wm
 gs:iZ u.1<=sm
 wsm:wm≠sm
 wmb:wm≠mb
 mbs:mb≠sm
def Z7.kf{z tb t a p c}(h:Z7 u O z D K L fa M sm tb t a p b c)(d:Ax O U iV):Z7 u U z D K L fa M sm tb t a p b c:=
 ⟨d.get h.1 id,h.ht.kx d id id,h.hw.keep (d.block _ (Bq.lt h.hw) id),h.hm.of_block (d.block _ h.hm.lt id),h.d.kf d,h.di,h.g.trans (I8.kf d),h.len,h.sz,h.nil,h.gv,h.gt,h.gm,h.gw,h.gs,h.wsm,h.wmb,h.mbs⟩
def An2(aa:Hq o F)(ab:o iU=jz)(ad:∀p,Em p=jz->p.size<=200->o p=jz->Jr o p)(ae:∀h,F h->E8 h)(af:∀p,Em p=jz->o p=jz)(C:Cx F y Dy iV u)(hg:∀U<8,∃l X f,u.1[U]?=je (pf l X f))(a1:Mx u D K (-1) L fa m)(s:y<=D)(w:y<=K)(A:∀g,Cl fa=je g->y<=g)(G:iY L<=900000)(H:∀f∈L,f.d.size<=1000000000000){a b}(N:DI L a r x)(P:Dz a)(Q:Hf [] (Qb r++x) (b.map Rc.body) q vy)(S:∀l∈b,Kf o l):Ba ow jz Dy (Pq Post) 33 #[HZ D] u λd O=>∃a6 wm sm tb t E J R,d=gq #[HZ a6,iS 0]/\Z7 u O a6 D K L fa wm sm tb t (replay b a) E J R:=by refine Ht func33 Ac iW ?_;simp only[ntmps33,na,Nat.reduceAdd,Nat.reduceSub];refine G9s ?_;refine Wad ?_;refine K9h ?_;refine N2m ?_;(iterate 5 (refine V2g ?_));refine Ks D K (qx iW) a1.1 iW Ac (B1 Ab) iW Ac λu0 B=>?_;walk_nrm;refine V2g ?_;refine Rx iW Ac λi=>⟨o0 vy,u0.at i,Ahg (λn h _=>?_) (λn h=>?_),MF ?_ i⟩;unfold Gq;simp[B9];kernel_rfl;unfold Gq;simp[B9];kernel_rfl;walk_nrm;refine T03 ?_;refine Nvt ?_;refine G9s ?_;refine V2g ?_;have ah:=B.4;refine A0 (Ake (Post:=Post) aa ab ad ae af (C.kf B) (J3 hg B λ_ a7=>a7.elim) (a1.kf B) s w A G H N P Q S) iW Ac iW Af ?_;rintro d Z⟨f,t,E,J,R,rfl,c⟩;have a8:=c.1;have ai:=c.5;have aj:=c.6;walk_nrm;refine Ldr ?_;refine Uuq λu2 v b2=>?_;intro u3 W M;walk_nrm;refine Wad ?_;refine K9h ?_;have g:Ax Z u3 iV:=v.trans' W λak a7 En=>Aa;refine Ne8 ?_;refine Qit ?_;refine N2i ?_;refine Pv2 ?_;refine G9s ?_;refine Ks Z.1.size D (zk iW) M iW Ac (B1 Ab) iW Ac λY I=>?_;walk_nrm;refine V2g ?_;refine QF iW Ac (B1 Ab) (λL=>zk iW) ?_;intro k K4 b4;walk_nrm;refine QF iW Ac (B1 Ab) (λL=>zk iW) ?_;intro e T b5;walk_nrm;refine V2g ?_;refine Dw (Cc D f Y.1.size k.1.size 0 vy) 92 ?_;walk_nrm;have j:=Bi e (Cc D f Y.1.size k.1.size 0 vy) 92 iV;have z:(e.alloc (pf (Cc D f Y.1.size k.1.size 0 vy) 92)).1[iZ e.1]?=je (pf (Cc D f Y.1.size k.1.size 0 vy) 92):=iy _ _;generalize e.alloc (pf (Cc D f Y.1.size k.1.size 0 vy) 92)=u6 at j z⊢;refine Wad ?_;refine K9h ?_;have V:=(((g.trans I).trans K4).trans T).trans j;have al:=I.4;have ao:=c.g.k.4;have aq:=g.4;have ar:=K4.4;have au:=T.4;have l4:=ltOf b4;have l5:=ltOf b5;have lm:=a8.2.lt;refine Ca ⟨qx iW,iW,gq #[HZ e.1.size,iS 0],λi=>by simp[yo,results33,go_sem],λi X he=>?_,_,iZ Y.1,iZ k.1,f,t,E,J,R,iW,z,a8.kx V id id,⟨⟨#[],0,(T.trans j).get b4 id,by simp[xu],iW⟩,Ae⟩,⟨⟨#[],0,j.get b5 id,by simp[xu],iW⟩,Ae⟩,c.d.kf V,c.3,((I8.kf B).trans c.g).trans (I8.kf V),c.7,c.8,c.9,Aa,Aa,Aa,Aa,Aa,Aa,Aa,Aa⟩;simp[yo,results33,go_sem]at he
def Aqz(U:Hq o F)(l:o iU=jz)(k:∀p,Em p=jz->p.size<=200->o p=jz->Jr o p)(n:∀h,F h->E8 h)(v:∀p,Em p=jz->o p=jz)(C:Cx F y Dy iV u)(z:∀i<8,∃c g b,u.1[i]?=je (pf c g b))(B:Mx u D K (-1) L fa m)(s:y<=D)(w:y<=K)(A:∀j,Cl fa=je j->y<=j)(G:iY L<=900000)(H:∀b∈L,b.d.size<=1000000000000){a rs'}(N:DI L a r x)(P:Dz a)(Q:Hf [] (Qb r++x) (rs'.map Rc.body) q vy)(S:∀c∈rs',Kf o c):Ba ow jz Dy (Pq Post) 17 #[HZ D] u λd O=>∃e f t sm tb b7 E ah b8,d=gq #[HZ e,iS 0]/\O.1[e]?=je (pf #[HZ f] 74)/\iZ u.1<=e/\Z7 u O f D K L fa t sm tb b7 (replay rs' a) E ah b8:=by refine Ht func17 W Y ?_;simp only[ntmps17,na,Nat.reduceAdd,Nat.reduceSub];refine G9s ?_;refine Wad ?_;refine K9h ?_;refine G9s ?_;refine V2g ?_;refine A0 (An2 (Post:=Post) U l k n v C z B s w A G H N P Q S) Y W Y Af ?_;rintro d Z⟨f,t,sm,tb,b7,E,ah,b8,rfl,R⟩;refine Haw ?_;refine Ne8 ?_;refine Qit ?_;refine N2i ?_;refine Pv2 ?_;refine G9s ?_;refine Wad ?_;refine Dw (#[vp _]) 74 ?_;walk_nrm;have J:=Bi Z #[HZ f] 74 iV;have b:(Z.alloc _).1[iZ Z.1]?=je (pf #[HZ f] 74):=iy _ _;refine Wad ?_;refine K9h ?_;refine Ca ⟨qx Y,Y,gq #[vp _,iS 0],λI=>by simp[yo,results17,go_sem],λI g he=>?_,_,f,t,sm,tb,b7,E,ah,b8,Y,b,R.g.k.4,R.kf J⟩;simp[yo,results17,go_sem]at he
end
section
variable {e tb f:Nat} {d:List Fl}
def Dz.trN(a:∀p,Em p=jz->Jr o p)(h:Dz t):TrN o t.2:=⟨λq f=>by have ⟨b,c,_⟩:=h.5 q f;exact⟨(a _ b).5.1,(a _ b).5.2,c⟩⟩
def Z7.fuld(h:Z7 u O e D K L a M sm tb f t d b i)(V:Dz t)(q:∀p,Em p=jz->Jr o p)(C:Cx F y Dy c O)(G:∀k<8,∃r l fz,O.1[k]?=je (pf r l fz))(B:y<=iZ u.1)(s:∀j,c j->j<iZ u.1)(v:y<=D)(w:y<=K)(N:¬c D)(W:¬c K)(m:∀g,Cl a=je g->y<=g/\¬c g):F9 z o F y c O ⟨e,D,K,tb,f,M,sm⟩ ⟨0,vy,t.1,t.2,[],-1,d⟩ b i [] []:=by
 have n:∀j,iZ u.1<=j->¬c j:=λj E x=>by have:=s j x;omega
 have H:=h.gv;have I:=h.gt;have J:=h.gm;have Z:=h.gw;have P:=h.gs;have S:=V.2;have R:=V.3;exact⟨C,⟨⟨⟨h.1,n _ h.gv,h.2,n _ h.gt,n _ h.gm,by show _<=t.1;omega,by show t.1<=_;omega⟩,V.trOk,V.trN q,h.3,iA,h.d.1,h.d.2,gO _,Aj,n _ h.gw,n _ h.gs,N,W,λg G=>(h.g.2 g G).elim (λl=>(m g l).2) (n g),by show y<=e;omega,by show y<=tb;omega,by show y<=f;omega,by show y<=M;omega,by show y<=sm;omega,v,w,λg G=>(h.g.2 g G).elim (λl=>(m g l).1) (λl=>Aa),h.17,h.16,h.18⟩,⟨λk p Q=>(by simp at Q),λk j p A Q=>(by simp at Q)⟩,h.4⟩,⟨λk p Q=>(by simp at Q),λk j p A Q=>(by simp at Q)⟩,G⟩
def Z7.foot(h:Z7 u O e D K L a M sm tb f t d b i){j}(l:Im z ⟨e,D,K,tb,f,M,sm⟩ b [] j):j=K∨Cl a=je j∨iZ u.1<=j:=by obtain (rfl|rfl|l|rfl|rfl|rfl|rfl)|⟨c,p,Q,_⟩|⟨c,p,Q,_⟩:=l;exact qx (qx h.gv);exact zk Y;exact qx (h.g.2 j l);exact qx (qx h.gt);exact qx (qx h.gm);exact qx (qx h.gw);exact qx (qx h.gs);simp at Q;simp at Q
end
section
variable {H:Nat}
def RX(left n:Int):Int:=if left=0 then 0 else if n<0 then -1 else n
def Aro(d:Mx u D K left L a m)(p:u.1[H]?=je (pf #[Q K] 56))(n)(z:n<=9223372036854775807):Ba ow jz Dy N 11 #[Q H,k n] u λx O=>x=gq #[]/\Mx O D K (RX left n) L a m/\Ax u O (· = K):=by apply Bf (Ge Ad (X:=(· = K)) (R:=λx w=>x=gq #[]/\w.1[K]?=je (pf #[.slice a (iY L) m,k (RX left n)] 52)) λw W c=>(Ab2 w H K left n _ ((W H).trans p) ((W K).trans d.2.1)).mono λe B⟨C,J,T⟩=>⟨⟨_,C,Y,J⟩,Ax.of_grown T (zk Y)⟩);rintro x O⟨b,w,W,c,rfl,f⟩;refine⟨Y,⟨b.get d.1 (dH d.ne.1),⟨(W K).symm.trans f,Fj d.2.2 λg cs G M=>b.5 g (ltOf M) fun(e:g=K)=>?_⟩,?_,?_⟩,b⟩;subst e;rw[d.2.1]at M;cases M;rw[RX];split;omega;split<;>omega;rw[RX];split;omega;split<;>omega
structure Adj(u u')(D H K:Nat)(L a m):Prop where
 d:Mx u' D K (-1) L a m
 h:u'.1[H]?=je (pf #[HZ K] 56)
 k:Ax u u' iV
 gD:iZ u.1<=D
 gH:iZ u.1<=H
 gK:iZ u.1<=K
 gf:∀g,Cl a=je g->iZ u.1<=g
def Adj.ne(h:Adj u O D H K L a m):H≠D/\H≠K/\Cl a≠je H:=by refine⟨λe=>?_,λe=>?_,λe=>?_⟩;have:=h.h;rw[e,h.d.1]at this;cases this;have:=h.h;rw[e,h.d.2.1]at this;cases this;have ⟨cs,f⟩:=Ex h.d.2.2 ((Of a _ _).trans e);rw[h.h]at f;cases f
def Ael(o:Mx u D K left L a m)(p:u.1[H]?=je (pf #[Q K] 56))(keep)(r:-9223372036854775808<=keep)(X:keep<=9223372036854775807)(A:iY L<=1000000)(hs:∀f∈L,f.s<=f.d.size)(y:∀f∈L,f.d.size<=1099511627776):Ba ow jz Dy N 32 #[Q H,iS keep] u λx O=>∃i j F s t,x=gq #[Q i,Q j]/\Adj u O i j F (L.map (cr keep)) s t:=by refine Bf (Ge (f:=32) Ad (X:=λ_=>False) (R:=λx w=>x=gq #[vp (je ⟨iZ u.1+1,0,zt⟩),vp (je ⟨iZ u.1+2,0,zt⟩)]/\w.1[iZ u.1+1]?=je (pf #[Q u.1.size] 54)/\w.1[iZ u.1+2]?=je (pf #[Q u.1.size] 56)/\∃b G,w.1[iZ u.1]?=je (pf #[.slice b (L.map (cr keep)).length G,iS (-1)] 52)/\w.ownsRow (iZ u.1+3) 97 3 (.slice b (L.map (cr keep)).length G) (L.map (cr keep)).length (C9 (L.map (cr keep)))) λw W k=>(VM w H K left keep L a m ((W H).trans p) (o.sim W).2 r X S hs y).mono λe B⟨C,J,T,q,b,G,z,c⟩=>?_) ?_;rw[k]at C T q z c;exact⟨⟨_,C,Y,T,q,b,G,z,c⟩,Bc J⟩;rintro x O⟨d,w,W,k,rfl,T,q,b,G,z,c⟩;have M:=Fj c (J:=O) λg cs E P=>(W g).symm;refine⟨_,_,iZ u.1,b,G,Y,⟨(W _).symm.trans T,⟨(W _).symm.trans z,M.1,M.2.imp id (fun⟨g,l,H,h,v,n⟩=>⟨g,l,H,h,bB _,n⟩)⟩,S,S⟩,(W _).symm.trans q,d,S,S,aA _,λg e=>?_⟩;obtain⟨I,_⟩|⟨R,l,I,h,v,n⟩:=M.2;simp at I;rw[I.1]at e;cases e;cases h;cases e;show _<=R;omega
def Al2:Ba ow jz Dy N 4 #[] u λx O=>∃D H K,x=gq #[Q D,Q H]/\Adj u O D H K [] zt 0:=by refine Bf (Ge Ad (X:=λ_=>False) (R:=λx w=>x=gq #[vp (je ⟨iZ u.1+1,0,zt⟩),vp (je ⟨iZ u.1+2,0,zt⟩)]/\w.1[iZ u.1+1]?=je (pf #[Q u.1.size] 54)/\w.1[iZ u.1+2]?=je (pf #[Q u.1.size] 56)/\w.1[iZ u.1]?=je (pf #[.slice zt 0 0,k (-1)] 52)) λw W a=>(QN w).mono λe B⟨C,J,T,q,z⟩=>?_) ?_;rw[a]at C J T q;exact⟨⟨_,C,Y,T,q,J⟩,Bc z⟩;rintro x O⟨d,w,W,a,rfl,T,q,z⟩;exact⟨_,_,iZ u.1,Y,⟨(W _).symm.trans T,⟨(W _).symm.trans z,by simp[C9],zk ⟨Y,Y⟩⟩,S,S⟩,(W _).symm.trans q,d,S,S,aA _,λg e=>M2⟩
end
section
variable {Post:PA y F} {v:qi} {r:iC} {g:Int} {d:List Fl}
def F9.disk(H:F9 z o F y c u A e a m se r)(s:Mx v A.D A.K g d b i)(f:I8 u v A.K (Cl a) (Cl b)):F9 z o F y c v A { e with left:=g,L:=d } b i se r/\Mf u v A z z a b se se:=by
 have n:=H.F;have S:=n.1;have k:=f.k;have E:∀{j} {t},u.1[j]?=je t->(∀w,t≠pf w 52)->(∀w,t≠pf w 97)->¬(j=A.K∨Cl a=je j):=λl O P h=>by obtain h|h:=h;subst h;rw[S.7.1]at l;grind;obtain⟨cs,p⟩:=Jm S.7.2 h;grind
 have T:∀f,Cl b=je f->¬c f/\y<=f:=λj G=>by obtain h|h:=f.2 j G;exact⟨S.nf j h,S.gf j h⟩;have:=H.C.4;exact⟨λC=>by have:=H.C.W.lt C;omega,Aa⟩
 have I:=E S.V.1 Z Z;have J:=E S.V.3.1 Z Z;have U:¬(A.5=A.K∨Cl a=je A.5):=by obtain⟨es,cl,D⟩:=S.V.3.2.obj;grind
 have Y:¬(A.6=A.K∨Cl a=je A.6):=by obtain⟨es,cl,D⟩:=Bq.obj S.4;grind
 have X:¬(A.7=A.K∨Cl a=je A.7):=by obtain⟨es,cl,D⟩:=n.3.obj;exact E D Z Z
 have R:∀j,(j=A.K∨Cl a=je j)->A.has a j:=λj h=>h.elim (λh=>qx (zk h)) λh=>qx (qx (zk h));have K:∀j,Ip se j->¬(j=A.K∨Cl a=je j):=λj l h=>S.offS n.3 n.2 (R j h) l;have L:∀j,NW z se j->¬(j=A.K∨Cl a=je j):=λj⟨q,x,Q,l⟩=>by obtain⟨M,_,_,_,B,_⟩:=H.Q.1 q x Q;obtain⟨cs,p⟩:=Ex B l;exact E p Z Z
 have W:VW Dy c v:=H.C.W.ofK k (λq V h=>h.elim (λh=>S.nK (h▸V)) λh=>S.nf q h V) λ_ h=>h.elim;have N:AM o c y v A e.1 e.2 e.3 e.4 e.5 g d b i:=⟨S.V.kx k I J U,S.2,S.3,S.4.keep (k.5 _ (Bq.lt S.4) Y),S.5,s.1,s.2,s.3,s.4,S.nw,S.11,S.nD,S.nK,λf G=>(T f G).1,S.gv,S.gt,S.gm,S.gw,S.gs,S.gD,S.gK,λf G=>(T f G).2,S.23,S.24,S.25⟩;refine⟨⟨H.C.kx k W λj h=>S.ge (R j h),⟨N,n.2.kx k K,n.3.of_block (k.5 _ n.3.lt X)⟩,H.Q.kx k L,J3 H.4 k λj h=>aD H.C.5 (S.ge (R j h))⟩,k.mono λj h=>zk (R j h),λj l=>?_,iW⟩;obtain (h|h|h|h)|h|h:=l;exact zk (zk (zk h));exact zk (zk (qx (zk h)));exact(f.2 j h).imp (λh=>zk (qx (qx (zk h)))) id;exact zk (zk (qx (qx (qx h))));exact zk (qx (zk h));exact zk (qx (qx h))
def F9.fall(H:F9 z o F y c u A e a m se r)(t:Ax u v (· = A.1))(f:v.1[A.1]?=je (pf (Cc A.D A.tb A.wm A.sm e.last jz) 92)):F9 z o F y c v A { e with down:=jz } a m se r/\Mf u v A z z a a se se:=by
 have b:=H.F;have g:=b.1;have E:∀{j} {d},u.1[j]?=je d->(∀i,d≠pf i 92)->¬j=A.1:=λl C h=>by subst h;rw[g.V.1]at l;grind
 have k:∀j,NW z se j->¬j=A.1:=λj⟨q,x,Q,l⟩=>by obtain⟨M,_,_,_,B,_⟩:=H.Q.1 q x Q;obtain⟨cs,p⟩:=Ex B l;exact E p Z
 have U:Full z o Dy c y v A { e with down:=jz } a m se:=⟨(⟨⟨f,g.V.2,g.V.3.kx t (E g.V.3.1 Z) (by obtain⟨es,cl,D⟩:=g.V.3.2.obj;exact E D Z),g.V.4,g.V.5,g.V.6,g.V.7⟩,g.2,g.3,g.4.keep (t.5 _ (Bq.lt g.4) Ade),g.5,t.get g.6 (E g.6 Z),g.7.kx t (E g.7.1 Z) (λn G=>by obtain⟨cs,p⟩:=Jm g.7.2 G;exact E p Z),g.8,g.9,g.nw,g.11,g.nD,g.nK,g.nf,g.gv,g.gt,g.gm,g.gw,g.gs,g.gD,g.gK,g.gf,g.23,g.24,g.25⟩),b.2.kx t λj l h=>by subst h;exact g.offS b.3 b.2 (zk Y) l,b.3.of_block (t.5 _ b.3.lt (by obtain⟨es,cl,D⟩:=b.3.obj;exact E D Z))⟩;have s:∀j,j=A.1->y<=j:=λj h=>h▸g.gv;exact⟨⟨H.C.kx t (H.C.W.ofK t (λq V h=>g.V.2 (h▸V)) λ_ h=>h.elim) s,U,H.Q.kx t k,J3 H.4 t λj h=>aD H.C.5 (s j h)⟩,t.mono λj h=>zk (zk h),λj h=>zk h,Y⟩
def GP(e:ST)(x:p8)(σ':ST):Prop:=
 (e.down=jz/\x=k 18/\σ'=e)∨(e.down=vy/\∃b g d S,S.Perm (e.ns.map Prod.snd)/\Ih S/\Apq e.left e.L ⟨(Ei e.num S).toArray⟩ b g d/\g<=e.left/\x=k (if b then 0 else 18)/\σ' = { e with down:=!b,left:=g,L:=d })
def Ak2(U:Hq o F)(K:o iU=jz)(L:∀w,F w->E8 w)(P:∀s,Em s=jz->o s=jz)(j:F9 z o F y c u A e a m se r)(b6:Dz (e.num,e.ns))(R:iY e.L<=900000)(X:∀Y∈e.L,Y.d.size<=1000000000000):Ba ow jz Dy (Pq Post) 30 #[HZ A.1] u λx O=>∃G b i,GP e x G/\F9 z o F y c O A G b i se r/\Mf u O A z z a b se se:=by have S:=j.F.1;refine Bh func30 Ac iW (λ_ _=>results_tmp Ac _ _ _) (λ_ _=>events_results_tmp Ac _ _) ?_;simp only[ntmps30,na,Nat.reduceAdd,Nat.reduceSub];refine G9s ?_;refine T03 ?_;refine Ne8 ?_;refine Mwc ?_;refine A0 (V0 j.C.W A.1 _ e.2 S.V.1 iW S.V.2) iW Ac iW Af ?_;rintro b7 u1⟨k,W1,rfl⟩;walk_nrm;refine K9h ?_;have q:=j.kf k;cases J:e.2 with|true=>refine N5y ?_;refine G9s ?_;refine T03 ?_;exact Ca ⟨qx iW,iW,e,a,m,zk ⟨J,iW,iW⟩,q,Mf.kf k⟩|false=>refine Nvt ?_;refine Ne8 ?_;have S1:=q.F.1;have f:∀(w:qi)(h:Nat),w.1[A.1]?=je _->(w.at h).1[A.1]?=je (pf (Cc A.D A.4 A.6 A.7 e.1 e.2) 92):=λw h Z=>Z;refine Es (I:=λw=>w.1[A.1]?=je (pf (Cc A.D A.4 A.6 A.7 e.1 e.2) 92)) Ac λt=>?_;have T:=S1.V.1;refine K72 ?_;refine A7.tp 5 f Api T ?_;walk_nrm;refine A7.tp 6 f Api T ?_;walk_nrm;refine A7.tl 7 f Api T (λw (n:w.1[A.1]?=je _)=>(cellOf n iW:w.cell? (iR A.1 1)=je _)) (X5 _) ?_;walk_nrm;refine A7.take (i:=3) (x:=(.agg #[HZ A.D])) f Api iW Ab Ab Ab (Gw (S:=env Lv) Ac (B1 (fn:=0) Ab) (A5 _ _) ?_) T ?_;intro w n;have c0:=Kj 0 n;refine⟨zk ?_,?_⟩;walk_nrm;go_simp;walk_nrm;intro ae he;simp[go_sem,c0]at he;exact Co (X5 _);walk_nrm;have p:=q.at t;have l:=p.F.1;refine Cd (i:=8) (ZC (Post:=Post) U K L P p.C ⟨l.6,l.7,l.8,l.9⟩ R X l.V.3 b6) Ab iW Ac iW Af ?_;rintro b7 v⟨b8,g,d,b,i,N,rfl,Q,B,C,d3,g3,D⟩;obtain⟨E,G3⟩:=p.disk d3 g3;have V:=E.F.1;refine⟨V.V.1,?_⟩;walk_nrm;have I:=((Mf.kf k).trans (Mf.kf ((Ax.refl u1 _).at t))).trans G3;cases b8 with|false=>refine A7.tp 9 f Api V.V.1 ?_;walk_nrm;refine A7.all Ab ?_ _;refine N5y ?_;refine G9s ?_;refine Trb ?_;refine Dq (S:=env Lv) iW Ac (B1 Ab) (A5 _ _) (x:=undef) (v':=(v.setCell (iR A.1 5) (o0 jz))) (λH=>qx ⟨by have M:=(show World.cell? (World.at v H) _=_ from(cellOf (j:=5) V.V.1 iW));have a1:=(show World.frozen? (World.at v H) _=vy from(Ej (j:=5) V.V.1));walk_nrm;go_simp;first|done|rfl,rfl⟩) (λH=>by have M:=(show World.cell? (World.at v H) _=_ from(cellOf (j:=5) V.V.1 iW));have a1:=(show World.frozen? (World.at v H) _=vy from(Ej (j:=5) V.V.1));walk_nrm;intro ez W;simp[go_sem,M,a1,events_store _ _ _ _ (Value.slice _ _ _) Mode.plain iW,events_store _ _ _ _ (Value.bool _) Mode.plain iW,storedEv]at W;subst W;exact Co (X5 _)) ?_;walk_nrm;refine K9h ?_;have K6:=Gk v A.1 5 (o0 jz);(have a6:(v.setCell (iR A.1 5) (o0 jz)).1[A.1]?=je (pf (Cc A.D A.4 A.6 A.7 e.1 jz) 92):=by rw[heap_setCell,aL iW,V.V.1];rfl);obtain⟨H6,G6⟩:=E.fall K6 a6;refine G9s ?_;refine T03 ?_;exact Ca ⟨qx iW,iW,_,b,i,qx ⟨J,vy,g,d,N,Q,B,C,D,iW,iW⟩,H6,I.trans G6⟩|true=>refine A7.tp 9 f Api V.V.1 ?_;walk_nrm;refine A7.all Ab ?_ _;refine Nvt ?_;refine G9s ?_;refine T03 ?_;exact Ca ⟨qx iW,iW,_,b,i,qx ⟨J,jz,g,d,N,Q,B,C,D,iW,iW⟩,Aj,I⟩
def Arl(U:Hq o F)(l:o iU=jz)(g:∀w,F w->E8 w)(h:∀p,Em p=jz->o p=jz)(j:F9 z o F y c u A e a m se r)(k:Dz (e.num,e.ns))(n:iY e.L<=900000)(q:∀s∈e.L,s.d.size<=1000000000000){d}(O:u.1[d]?=je (pf #[Q A.1] 74)):Ba ow jz Dy (Pq Post) 14 #[Q d] u λx f=>∃G b i,GP e x G/\F9 z o F y c f A G b i se r/\Mf u f A z z a b se se:=by apply Bh func14 W Y (λ_ _=>results_tmp W _ _ _) (λ_ _=>events_results_tmp W _ _);simp only[ntmps14,na,Nat.reduceAdd,Nat.reduceSub];refine G9s ?_;refine T03 ?_;refine G9s ?_;refine V2g ?_;apply A0 (UO O (x:=Q A.1) Y) Y W Y Af;rintro t Z⟨rfl,H⟩;walk_nrm;apply A0 (Ak2 (Post:=Post) U l g h (j.kf H) k n q) Y W Y Af;rintro t B⟨G,b,i,C,v,J⟩;walk_nrm;refine T03 ?_;exact Ca ⟨qx Y,Y,G,b,i,C,v,(Mf.kf H).trans J⟩
end
section
variable {r i:iC} {b:Nat}
def Acm(H:Hand z o F y c u d A e a m se r)(D:Hand f o F y c u b B g I C j i)(q:0<iY e.ns)(R:∀G∈e.ns,G.2.path=G.1)(Y:g.num=e.num)(U:g.ns.Perm e.ns):Ba ow jz Dy N 9 #[Q d,Q b] u λW O=>W=o0 jz/\Ax u O iV:=by
 refine Qc8 ?_;refine G9s ?_;refine T03 ?_;refine G9s ?_;refine V2g ?_;refine A0 (SH H q) iW Ac iW Af ?_;rintro W S⟨k,l,t,rfl,n,x,s⟩;refine Haw ?_;refine G9s ?_;refine V2g ?_;refine A0 (SH (⟨D.H.kf k,k.get D.2 id,D.3⟩) (U.length_eq▸q)) iW Ac iW Af ?_;rintro W u2⟨J,L,T,rfl,v,V,X⟩;walk_nrm;have v:=v.trans (U.map Prod.snd);obtain rfl:t=T:=MV (n.trans v.symm) x V (QL H.H R n);iterate 5 (refine V2g ?_)
 refine K9h ?_;have K:iY t<=1000000:=by have:=n.length_eq;have:=H.H.F.1.2.1;simp at *;omega
 refine G9s ?_;refine Wad ?_;refine A0 (Ge (f:=27) (args:=#[l,L]) Ad (X:=λ_=>False) (R:=λW _=>W=o0 jz) λh M P=>(MS h l L t ((s.kf J).same (λw=>(M w).symm) P.symm) (X.same (λw=>(M w).symm) P.symm) K).mono λQ w' Z=>⟨⟨_,Z.1,iW⟩,Bc Z.2⟩) iW Ac iW Af ?_;rintro W E⟨p,h,_,_,rfl⟩;walk_nrm;refine T03 ?_;refine G9s ?_;refine Ldr ?_;refine Gsw ?_;refine Wad ?_;refine K9h ?_;exact Ca ⟨qx iW,iW,iW,(k.trans J).trans p⟩
end
def GF(w c d S Z)(i:Gx w w.1.size c S)(D:Gx w w.1.size d Z)(ab:iY S<=1000000)(z':iY Z<=1000000):Calls ow 27 #[c,d] w λz E=>(∃u,z=.returned (o0 u))/\iT w E:=by have X:Hid (∀W,iT w W->Gx W w.1.size c S):=λW h=>i.below h;have r:Hid (∀W,iT w W->Gx W w.1.size d Z):=λW h=>D.below h;obtain⟨u,ad,rfl,C,ae,_⟩:=i;obtain⟨b',af,rfl,F,ah,_⟩:=D;by_cases K:iY S=iY Z;(case neg=>(have aq:((iY S:Int)==(iY Z:Int))=vy:=by rw[beq_eq_false_iff_ne];omega);have ar:¬(iY S:Int)=(iY Z:Int):=Aa;go_enter func27,ntmps27;go_wp2_with fail;go_ret;exact⟨⟨_,iW⟩,Below.refl _ _⟩);case pos=>rw[←K]at F;go_enter func27,ntmps27;rw[←K];go_wp2_with fail;go_loopw [5] (λa wr=>∃k,k<=iY S/\a=iS k/\Hid (iT w wr)) (λa _=>iY S - (intOf a).toNat);(case atStart=>exact⟨0,bB _,iW,Below.refl _ _⟩);case round=>obtain⟨k,a7,rfl,n⟩:=hrel;by_cases b:k<iY S;(·have N:(k:Int)<(iY S:Int):=Aa;have Y:k<iY Z:=Aa;obtain⟨P,H,m,_,_,g⟩:=X wr n;obtain⟨O,Q,v,_,_,M⟩:=r wr n;simp[Value.slice.injEq,aU,Addr.mk.injEq]at m v;obtain⟨⟨rfl,_,_⟩,_,rfl⟩:=m;obtain⟨⟨rfl,_,_⟩,_,rfl⟩:=v;have c0:=g k b 0 _ iW;have R:=g k b 1 _ iW;have T:=g k b 2 _ iW;have a1:=g k b 3 _ iW;have a6:=g k b 4 _ iW;have l:=g k b 5 _ iW;have A:=M k Y 0 _ iW;have ai:=M k Y 1 _ iW;have aj:=M k Y 2 _ iW;have ak:=M k Y 3 _ iW;have al:=M k Y 4 _ iW;have ao:=M k Y 5 _ iW;rw[gY]at c0 A;clear g M;generalize S[k]=a8 at *;generalize Z[k]=x' at *;obtain⟨J,s,j,I,B,V⟩:=a8;obtain⟨U,e,o,p,G,x⟩:=x';(have aa:(¬J.toList=U.toList)∨(J.toList=U.toList/\¬s.toList=e.toList)∨(J.toList=U.toList/\s.toList=e.toList/\¬j.toList=o.toList)∨(J.toList=U.toList/\s.toList=e.toList/\j.toList=o.toList/\¬I=p)∨(J.toList=U.toList/\s.toList=e.toList/\j.toList=o.toList/\I=p/\¬B=G)∨(J.toList=U.toList/\s.toList=e.toList/\j.toList=o.toList/\I=p/\B=G/\¬V=x)∨(J.toList=U.toList/\s.toList=e.toList/\j.toList=o.toList/\I=p/\B=G/\V=x):=by grind);obtain f|⟨f,L⟩|⟨f,L,q⟩|⟨f,L,q,t⟩|⟨f,L,q,t,y⟩|⟨f,L,q,t,y,e6⟩|⟨f,L,q,t,y,e6⟩:=aa;all_goals go_wp2_with fail;go_region;(all_goals go_wp2_with fail);all_goals first|(go_ret;first|exact n.drew|exact⟨⟨_,iW⟩,n.drew⟩)|(go_roundw;all_goals first|exact⟨k+1,Aa,by go_num,n.drew⟩|(simp[intOf];done)|(simp[intOf];omega)));·have N:¬(k:Int)<(iY S:Int):=Aa;go_wp2;go_ret;first|exact n|exact⟨qx iW,n⟩|exact⟨⟨_,iW⟩,n⟩
section
variable {r i:iC} {b:Nat}
def Acl(H:Hand z o F y c u d A e a m se r)(D:Hand f o F y c u b B g I C j i)(q:0<iY e.ns)(R:0<iY g.ns):Ba ow jz Dy N 9 #[HZ d,HZ b] u λW O=>(∃k,W=o0 k)/\Ax u O iV:=by
 refine Qc8 ?_;refine G9s ?_;refine T03 ?_;refine G9s ?_;refine V2g ?_;refine A0 (SH H q) Y Ac Y Af ?_;rintro W S⟨k,l,t,rfl,n,x,s⟩;refine Haw ?_;refine G9s ?_;refine V2g ?_;refine A0 (SH (⟨D.H.kf k,k.get D.2 id,D.3⟩) R) Y Ac Y Af ?_;rintro W X⟨J,w,E,rfl,P,G,Q⟩;refine Haw ?_;have K:iY t<=1000000:=by have:=n.length_eq;have:=H.H.F.1.2.1;simp at *;omega
 have T:iY E<=1000000:=by have:=P.length_eq;have:=D.H.F.1.2.1;simp at *;omega
 refine G9s ?_;refine Wad ?_;refine A0 (Ge (args:=#[l,w]) Ad (X:=λ_=>False) (R:=λW _=>∃k,W=o0 k) λh L M=>(GF h l w t E ((s.kf J).same (λp=>(L p).symm) M.symm) (Q.same (λp=>(L p).symm) M.symm) K T).mono λY Z U=>⟨Aj,Bc U.2⟩) Y Ac Y Af ?_;rintro W u3⟨v,h,_,_,V,rfl⟩;walk_nrm;refine T03 ?_;refine G9s ?_;refine Wad ?_;cases V with|false=>(iterate 3 (refine E11 ?_));exact Shw|true=>refine Wad ?_;by_cases hn:e.3=g.3;refine Gsw ?_;exact Shw;refine U5o ?_;exact Shw
end
section
variable {G:ST} {u:Tr}
structure Dm(o)(e:ST)(u r):Prop where
 di:DI e.L u r []
 tg:Dz u
 ok:∀c∈r,Kf o c
 old:∀c∈r,c.last<=e.num
 same:Z6 (replay r u) (e.num,e.ns)
 tr:Dz (e.num,e.ns)
def Dm.snap(D:Dm o e u r){x}(h:GP e x G):∃f a,Dm o G f a:=by obtain⟨_,_,rfl⟩|⟨_,d,i,p,S,Q,b,c,_,_,rfl⟩:=h;exact⟨u,r,D⟩;have H:=D.6.sorted Q b;obtain⟨_,_,h⟩|⟨_,a,Y,h⟩:=D.1.snap H.1 c.p;exact⟨u,r,h,D.2,D.3,D.4,D.5,D.6⟩;obtain rfl|rfl:=Y;refine⟨Sk e.3 S,a,h,H.1.tree D.6.2,D.3,D.4,?_,D.6⟩;rw[VT a _ D.4];exact H.2;exact⟨Sk e.3 S,[],h,H.1.tree D.6.2,λg M=>(nomatch M),λg M=>(nomatch M),H.2,D.6⟩
def ED(r:Rq)(num:Int):Rc:=⟨r.kind,num+1,r.p,r.d⟩
theorem Ae6(c:Rc):c.frame.data.toList≠[]:=by intro h;have:=aK List.length h;rw[Rc.frame_eq,aH,Orch.be_length]at this;simp at this
def Dm.work(D:Dm o e u r){a i l V}(E:1<=a.kind)(Q:a.kind<=6->Jr o a.p)(f:a.kind<=3->a.d.size<=40)(z:e.num+1<9223372036854775807)(J:e.down=vy)(h:Fc a i e l G V):(G.down=vy/\∃g,Dm o G u g)∨(G.down=jz/\a.kind<=3/\Du a.kind e.ns a.p a.d a.ver=0/\G.left=0/\G.num=e.num/\G.ns=e.ns/\V=l/\Kf o (ED a e.num)/\(Dm o G u r∨DI G.L u r (ED a e.num).frame.data.toList)):=by
 rw[Fc]at h;split at h;rename_i T;have P:=Q Aa;have M:Kf o (ED a e.3):=⟨by show a.1=1∨a.1=2∨a.1=3;omega,by have:=D.6.2;show 0<=e.3+1;simp only at this;omega,z,P.2,P.3,f T,P.1⟩;obtain⟨_,rfl,_⟩|⟨F,j,k,p,b,m⟩:=h;grind;have d:VS e.6 e.L (ED a e.3).frame j k p:=b;obtain⟨rfl,rfl,K⟩|⟨rfl,rfl,_⟩:=m;refine qx ⟨iW,T,F,?_,iW,iW,K,M,?_⟩;obtain⟨_,_,h,_⟩|⟨_,_,_,⟨_,_,h,_⟩|⟨_,h,_⟩⟩:=b;exact h;exact h;cases h;obtain⟨_,_,_,rfl⟩|⟨_,t,y,⟨_,_,_,rfl⟩|⟨_,h,_⟩⟩:=d;exact zk ⟨D.1,D.2,D.3,D.4,D.5,D.6⟩;exact qx (D.1.app y);cases h;refine zk ⟨J,r++[ED a e.3],?_⟩;have q:DI p u (r++[ED a e.3]) []:=by obtain⟨_,h,_⟩|⟨_,t,y,⟨_,h,_⟩|⟨_,_,_,H⟩⟩:=d;cases h;cases h;exact(D.1.app y).sync (Ae6 _) H
 have s:Dz (e.3+1,Mg a.1 e.4 a.p a.d iU (e.3+1)):=D.6.go M.1 F z;refine⟨q,D.2,λc n=>?_,λc n=>?_,?_,s⟩;obtain h|h:=bC.1 n;exact D.3 c h;grind;obtain h|h:=bC.1 n;have:=D.4 c h;show c.2<=e.3+1;omega;rw[dJ]at h;subst h;exact gO _;rw[Zm];have hs:=D.5;have S:Du a.1 (replay r u).2 a.p a.d (-1)=0:=by rw[CE hs.2 hs.3];exact XR F
 have L:(ED a e.3).go (replay r u)=(e.3+1,Mg a.1 (replay r u).2 a.p a.d iU (e.3+1)):=by rw[Rc.go];have Y:(replay r u).1=e.3:=hs.1;rw[aL ⟨by rw[Y];rfl,S⟩,Y];rfl
 rw[L];exact⟨iW,XT hs.2 _ _ _ _ _,DT hs.3 S⟩;left;split at h;obtain⟨rfl,_⟩:=h;exact⟨J,r,D.1,D.2,D.3,D.4,D.5,D.6⟩;obtain⟨rfl,_⟩:=h;exact⟨J,r,D⟩
end
section
variable {G:ST} {u:Tr}
def CH(Y:∀c∈r,Kf o c):Hf [] (Qb r++[]) (r.map Rc.body) [] vy:=by have:=OR Y (Hf.done []);grind
structure Rd(o L u)(r rs':List Rc)(x q):Prop where
 di:DI L u r x
 cuts:Hf [] (Qb r++x) (rs'.map Rc.body) q vy
 ok:∀c∈rs',Kf o c
def OP(D:DI L u r [])(Y:∀c∈r,Kf o c)(keep):Rd o (L.map (cr keep)) u r r [] []:=by have ⟨k,E⟩:=D.crash keep;rw[List.take_nil]at E;exact⟨E,CH Y,Y⟩
def TZ{c}(D:DI L u r c.frame.data.toList)(Y:∀c∈r,Kf o c)(M:Kf o c)(keep):∃a x q,Rd o (L.map (cr keep)) u r a x q/\(a=r∨a=r++[c]):=by have ⟨k,E⟩:=D.crash keep;by_cases h:k<iY c.frame.1.1;have C:=OR Y (UC M h);rw[bL]at C;exact⟨r,_,_,⟨E,C,Y⟩,zk iW⟩;(have s:∀B∈r++[c],Kf o B:=λB P=>by grind);have C:=CH s;rw[bE S]at E;rw[X0,bL]at C;exact⟨r++[c],_,_,⟨E,C,s⟩,qx iW⟩
def Vt(D:DI L u r x)(keep):(L.map (cr keep)).map (cr 0)=L.map (cr keep):=OO D.le
def Ajy{c}(hs:Z6 (replay r u) t):Z6 (replay (r++[c]) u) (c.go t):=by rw[Zm];exact Rc.go_same hs
end
structure Eqv(σ τ:ST):Prop where
 num:σ.num=τ.num
 ns:σ.ns=τ.ns
 ks:σ.ks=τ.ks
 down:τ.down=vy
 left:τ.left = -1
section
variable {G d:ST} {b:Rq} {V q:List AS}
def Yj{p data b a}(h:VS (-1) L data b a p):b=jz/\a = -1:=by have d:dec (-1) = -1:=Ad;obtain⟨h,_⟩|⟨_,t,_,⟨h,_⟩|⟨_,C,J,_⟩⟩:=h;cases h;omega;grind
def Eqv.work(E:Eqv e g)(h:Fc b i e l G V)(k:Fc b i g l d q):d.down=vy/\d.left = -1/\(e.down=vy->G.down=vy->Eqv G d/\V=q):=by obtain⟨S,L,Y,s,t⟩:=E;rw[Fc]at h k;split at h;rename_i T;rw[aL T]at k;obtain⟨B,rfl,rfl⟩|⟨B,j,m,p,a,D⟩:=k;refine⟨s,t,λy c=>?_⟩;obtain⟨_,rfl,rfl⟩|⟨F,_⟩:=h;exact⟨⟨S,L,Y,s,t⟩,by rw[S,L]⟩;grind;rw[t]at a;obtain⟨rfl,rfl⟩:=Yj a;obtain⟨D,_⟩|⟨_,rfl,rfl⟩:=D;cases D;refine⟨s,iW,λy c=>?_⟩;obtain⟨F,_⟩|⟨_,J,n,r,u,o⟩:=h;grind;obtain⟨_,rfl,_⟩|⟨_,rfl,rfl⟩:=o;cases c;exact⟨⟨by rw[S],by simp[S,L],by simp[S,Y],s,iW⟩,by rw[S,L,Y]⟩;rename_i T;rw[aO T]at k;split at h;rename_i f;rw[aL f]at k;obtain⟨rfl,rfl⟩:=h;obtain⟨rfl,rfl⟩:=k;exact⟨s,t,λy c=>⟨⟨S,L,by simp[L,Y],s,t⟩,by rw[S,L]⟩⟩;rename_i f;rw[aO f]at k;obtain⟨rfl,rfl⟩:=h;obtain⟨rfl,rfl⟩:=k;exact⟨s,t,λy c=>⟨⟨S,L,Y,s,t⟩,by rw[S]⟩⟩
def Eqv.lost(E:Eqv e g)(T:b.kind<=3)(F:Du b.kind e.ns b.p b.d b.ver=0)(k:Fc b i g l d q):(d.num,d.ns)=(ED b e.num).go (e.num,e.ns):=by have ⟨S,L,Y,s,t⟩:=E;rw[Fc,aL T]at k;obtain⟨B,_⟩|⟨B,c,f,p,a,D⟩:=k;grind;rw[t]at a;obtain⟨rfl,rfl⟩:=Yj a;obtain⟨D,_⟩|⟨_,rfl,_⟩:=D;cases D;rw[show ED b e.3=Rc.mk b.1 _ b.p b.d from iW,Ajz (t:=(e.3,e.4)) F];simp[S,L]
end
def OL(w z)(M:w.cell? (iR z 5)=je (o0 jz)):Calls ow 41 #[Q z] w λe B=>e=.returned (gq #[k 0,k 18])/\B=w:=by go_enter func41,ntmps41;go_wp2_with (go_at_call 36;apply(IC _ z jz M).mono;rintro e H⟨rfl,rfl⟩);all_goals exact bodyPost_ret (by simp[yo,results41,go_sem]) Y ⟨Y,Y⟩
def OK(w a z)(O:w.cell? (iQ a)=je (Q z))(M:w.cell? (iR z 5)=je (o0 jz)):Calls ow 31 #[Q a] w λe B=>e=.returned (gq #[k 0,k 18])/\B=w:=by go_enter func31,ntmps31;go_wp2_with (first|(go_at_call 24;apply(Oz _ a _ O).mono;rintro e H⟨rfl,rfl⟩)|(go_at_call 41;apply(OL _ z M).mono;rintro e H⟨rfl,rfl⟩));all_goals exact bodyPost_ret (by simp[yo,results31,go_sem]) Y ⟨Y,Y⟩
section
variable {r:iC} {f:SI}
def connD(H:F9 z o F y c u A e a m se r)(O:u.1[d]?=je (pf #[Q A.1] 74))(b:e.down=jz):Ba ow jz Dy N 31 #[Q d] u λx f=>x=gq #[k 0,k 18]/\Ax u f iV:=by have S:=H.F.1;have q:=S.V.1;rw[b]at q;apply Bf (Ge Ad (X:=λ_=>False) (R:=λx _=>x=gq #[k 0,k 18]) λw W g=>(OK w d A.1 (cellOf (j:=0) ((W d).trans O) Y) (cellOf (j:=5) ((W _).trans q) Y)).mono λi B h=>⟨⟨_,h.1,Y⟩,h.2▸Ax.refl _ _⟩);grind
def Ajw(h:F9 z o F y c u A e a m se r)(V:se[i]?=je f)(E:keyOf ow 3 (k f.k)=je (Lit.int yh f.k))(b:e.down=jz)(T):Ba ow jz Dy N 25 #[Q A.1,k f.k,T] u λd O=>d=k 18/\Ax u O iV:=by refine Tik ?_;refine G9s ?_;refine T03 ?_;refine G9s ?_;refine Wad ?_;apply A0 (Alz h.C.W h.F V E) Y W Y Af;rintro d Z⟨K,P,rfl⟩;walk_nrm;refine T03 ?_;have w:=h.kf K;refine Ne8 ?_;refine Qit ?_;refine N2i ?_;refine Pv2 ?_;refine Ne8 ?_;refine Mwc ?_;refine A0 (V0 w.C.W A.1 _ jz w.F.1.V.1 (by rw[b];rfl) w.F.1.V.2) Y W Y Af ?_;rintro g B⟨J,_,rfl⟩;walk_nrm;refine Wsj ?_;refine G9s ?_;refine T03 ?_;exact Ca ⟨qx Y,Y,Y,K.trans J⟩
def feedD(H:F9 z o F y c u A e a m se r)(O:u.1[d]?=je (pf #[Q A.1] 74))(V:se[i]?=je f)(E:keyOf ow 3 (k f.k)=je (Lit.int yh f.k))(b:e.down=jz)(T):Ba ow jz Dy N 7 #[Q d,k f.k,T] u λx g=>x=k 18/\Ax u g iV:=by refine Lqe ?_;refine G9s ?_;refine T03 ?_;refine G9s ?_;refine V2g ?_;apply A0 (UO O (x:=Q A.1) Y) Y W Y Af;rintro x j⟨rfl,J⟩;walk_nrm;refine Wad ?_;apply A0 (Ajw (H.kf J) V E b T) Y W Y Ah;rintro x n⟨rfl,h⟩;walk_nrm;refine T03 ?_;exact Ca ⟨qx Y,Y,Y,J.trans h⟩
end
def EB(c:UInt8):Bool:=c==47||Md c.toNat
def Agr{c}(h:EB c=jz):c.toNat<128:=by rw[EB,Md]at h;simp at h;obtain rfl|((h|h)|h)|h:=h;decide;all_goals omega
theorem Zt:∀k(s:iF),(∀p∈Lib.splitB ⟨#[47]⟩ 0 k s,∀c∈p.data.toList,EB c=jz)->∀c∈s.data.toList,EB c=jz
 |0,s,h=>h s (by simp[Lib.splitB])|k+1,s,h=>by obtain e|⟨i,e,l⟩:=Lib.indexB_cases s ⟨#[47]⟩;rw[Lib.splitB_miss _ _ _ _ e]at h;exact h s Z;rw[Lib.splitB_hit _ _ _ _ i e]at h;have F:=(Lib.indexByte_some (l:=s.1.1) (c:=47) (o:=i) ((Lib.index_one _ _).symm.trans e)).1;intro c M;obtain⟨j,a,rfl⟩:=bO.1 M;obtain g|rfl|g:=fF j i;refine h _ cG _ ?_;rw[eP];exact⟨j,by simp[g]⟩;rw[aG a]at F;rw[aC F];decide;refine Zt k _ (λp Q=>h p (cJ _ Q)) _ ?_;rw[eP];refine⟨j - (i+1),?_⟩;have:(⟨#[47]⟩:iF).size=1:=Y;have hs:iY s.1.1=s.size:=Y;simp[fD,fL,fW,this];grind
def VL{p}(h:Em p=jz):∀c∈p.data.toList,EB c=jz:=by rw[Em]at h;simp only[aQ,cZ,decide_eq_true_eq]at h;obtain⟨_,h|⟨h,z⟩⟩:=h;rw[Fv,decide_eq_true_eq]at h;subst h;decide;have D:=Zt _ (p.extract 1 p.size) (λq f c M=>by have:=cV.1 z q f;rw[Qu]at this;simp only[aQ]at this;have:=cV.1 this.2 c M;rw[EB,this,Bool.or_true]);obtain⟨F,hs⟩:=Tg h;intro c M;obtain⟨j,a,rfl⟩:=bO.1 M;match j with|0=>rw[aG a]at F;rw[aC F];decide|j+1=>apply D _;rw[eP];refine⟨j,?_⟩;have hs:iY p.1.1=p.size:=Y;simp[fD,fL,fW];grind
def Vf(h:∀c∈s.data.toList,EB c=jz):D8 s=jz:=by rw[D8,Lib.validD_ascii (iY s.1.1) _ (λb D=>Agr (h b (fK D))),List.drop_length];rfl
def Y8{a b c}(h:c∈(s.extract a b).data.toList):c∈s.data.toList:=by simp[fD,fL,fW]at h;grind
def Ju{p}(h:Em p=jz):Jr D8 p:=by
 have D:=VL h;have N:p.size<=24:=by rw[Em]at h;grind
 have O:D5 p=jz:=by rw[Em]at h;simp only[aQ,cZ,decide_eq_true_eq]at h;obtain⟨_,h|⟨h,_⟩⟩:=h;rw[Fv,decide_eq_true_eq]at h;subst h;decide +kernel;exact h
 refine⟨h,S,Vf D,O,⟨?_,(Vf λc M=>D c (Y8 M))⟩,⟨?_,?_⟩⟩;rw[Ji,cK];omega;rw[Da];split;decide;rw[cK];omega;rw[Da];split;decide;exact Vf λc M=>D c (Y8 M)
end Go.Proofs.Y
