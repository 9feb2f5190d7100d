import Derived.Test.YtjoblhlkfmeckaaGreatDoorQ22
import Derived.Test.YtjoblhlkfmeckaaGreatDoorQ13
import Derived.Test.YtjoblhlkfmeckaaGreatDoorQ08
import Derived.Test.YtjoblhlkfmeckaaGreatDoorQ19
import Derived.Conc.CompanyMem
import Derived.Deep.RegionHeld
set_option maxHeartbeats 2000000
set_option maxRecDepth 8000
set_option linter.unusedVariables false
set_option linter.unusedSimpArgs false
open Option renaming some → lp,none → od
open Go.Proofs.Tryz renaming prog → ly,f49 → ft
open Go renaming Value → tj,World → qq,undef → yj,Code → s9,Goroutine → gq,Frame → qg,Oper → gz,events_store → s5
open Bool renaming true → s7,false → vp
open Go.Value renaming slice → cf,ownBlock → qb,int → rl,string → pt,pointer → om,bool → gf,tuple → fh
open Go.Conc renaming stepG_region_end → we,stepG_region → zh,stepG_seq → mr,stepG_inBlock → rq
open Go.World renaming cell? → q7
open Go.Region renaming wanted → br
open Go.Exit renaming normal → kr
open List renaming range → qw
open Go.Value.bool renaming injEq → pz
open Go.Mode renaming plain → zw
open Go.Obj renaming cells → ye
open Go.IntKind renaming i64 → tz
open Go.Proofs.Tryz Orch
theorem Zuk{p q:Prop}(k:q)(h:Hd q->p:=by
 intro kz
 refine Br Tryz.func53 Ac rfl (R:=fun _=>.tuple #[]) (fun _ _=>results_none Ac _ _ _) (fun _ _=>events_results_none Ac _ _) ?_
 exact kz.1):p:=h ⟨k⟩
theorem Ljd{p q:Prop}(k:q)(h:Hd q->p:=by
 intro kz
 refine A5 ?_
 iterate 2(refine Ak ?_)
 exact kz.1):p:=h ⟨k⟩
theorem Go4{p:Prop}(h:p:=by
 walk_nrm
 refine By HCH rfl Ac rfl (by walk_nrm) ?_
 rintro y u2 ⟨rfl,W2,h⟩
 walk_nrm
 refine Au ?_
 simp only [Az,As]
 exact⟨.inl trivial,trivial,trivial,W2,h.imp (fun⟨l,hl,T⟩=>⟨l,hl,T.from K1⟩) fun h=>h.from K1 hs2⟩):p:=h
theorem B88{p q:Prop}(k:q)(h:Hd q->p:=by
 intro kz
 refine Br Tryz.func36 Ac rfl (R:=fun _=>.tuple #[]) (fun _ _=>results_none Ac _ _ _) (fun _ _=>events_results_none Ac _ _) ?_
 exact kz.1):p:=h ⟨k⟩
theorem Vs0{p q:Prop}(k:q)(h:Hd q->p:=by
 intro kz
 have Cg:=ltOf hb
 refine B88 ?_
 simp only [Tryz.ntmps36,na,Nat.reduceAdd,Nat.reduceSub]
 refine Tvw ?_
 refine Nao ?_
 refine Bq (cellOf (j:=3) hb rfl) j3 Cg ?_;walk_nrm
 refine Pdv ?_
 revert Cg
 exact kz.1):p:=h ⟨k⟩
theorem Kju{p:Prop}(h:p:=by
 refine Nat.lt_of_not_le fun hle=>?_
 simp [World.cell?,cA hle] at h4):p:=h
theorem Irp{p:Prop}(h:p:=by
 simp [Instr.sliceAt,Instr.slice,Instr.sliceBounds,Instr.sliceBound,asIntOf,go_sem,Tryz.runUnderlying35,h0,h1,Result.evThen]):p:=h
theorem Goo{p q:Prop}(k:q)(h:Hd q->p:=by
 intro kz
 have hbL:L.heap[sb]? = some (.cells (Bl n pv t v e o) 75):=(hs.same C.W.nf C.nb).trans C.blk
 have hoL:L.ownsRow 0 5 1 pv l.length (A0 l):=Ff C.own fun g hg=>hs.same C.W.nf (C.ap g hg).2.2.2
 revert hbL hoL
 exact kz.1):p:=h ⟨k⟩
theorem Uiu{p q:Prop}(k:q)(h:Hd q->p:=by
 intro kz
 refine Av T rfl (fun w=>stepG_region_end) ?_
 exact kz.1):p:=h ⟨k⟩
theorem Iya{p q:Prop}(k:q)(h:Hd q->p:=by
 intro kz
 refine Av T rfl (fun w=>stepG_seq) ?_
 exact kz.1):p:=h ⟨k⟩
theorem Grn{p q:Prop}(k:q)(h:Hd q->p:=by
 intro kz
 refine Av T rfl (fun w=>stepG_region) ?_
 exact kz.1):p:=h ⟨k⟩
theorem Vgp{p q:Prop}(k:q)(h:Hd q->p:=by
 intro kz
 refine Grn ?_
 simp only [aU,aK,aI,Nat.reduceAdd,aM,List.range,List.range.loop]
 exact kz.1):p:=h ⟨k⟩
namespace Go.Proofs.YtjoblhlkfmeckaaGreatDoor
open Go Go.Conc Go.Pair Go.RowKit Go.Maps
section
variable {valid:ByteArray->Bool} {Tabs:qq->Prop} {gN:Nat} {J:Loc->Prop} {Bs:Nat->Prop} {Stop:gq->qq->Prop} {u:qq} {svb D K tb mb wm sm s1 s2:Nat} {lg:Option (Nat×Nat)} {last num:Int} {ns:List (ByteArray×Nd)} {ks:List tj}
theorem Ov.lower{u':qq}{B B' sb:Nat}{n p t v e:tj}{l:List UInt8}(h:Ov u' B sb n p t v e l)(hB:B'<=B):Ov u' B' sb n p t v e l:=let⟨ov,a,b⟩:=h;⟨ov,a,Df b hB⟩
theorem R0.from{u0 u':qq}{p1 t1 e1 n2 p2 t2 v2 e2:tj}{kind:Nat}{p:ByteArray}(h:R0 Bs gN u u' svb D K tb mb wm sm s1 s2 lg last num ks p1 t1 e1 n2 p2 t2 v2 e2 kind p)(hk:Ar u0 u (fun _=>False))(h2:s2<u0.heap.size):R0 Bs gN u0 u' svb D K tb mb wm sm s1 s2 lg last num ks p1 t1 e1 n2 p2 t2 v2 e2 kind p:=by
 obtain⟨⟨lg',ns',ks',a1,a2,a3⟩,a4,l,a5,a6⟩:=h
 refine⟨⟨lg',ns',ks',a1,a2,a3.imp (fun⟨b1,b2,b3⟩=>⟨b1,b2,b3.trans (hk.block _ h2 id)⟩) fun⟨b1,b2,b3⟩=>⟨b1,b2,b3.lower hk.size⟩⟩,(hk.mono fun _ h=>h.elim).trans a4,l,a5,a6.lower hk.size⟩
theorem Aae(U:Jk valid Tabs)(C:Cx Tabs gN J Bs u)(S:Qr Bs gN u svb D K tb mb wm sm s1 s2 lg last num ns ks)(p1 t1 e1 n2 p2 t2 v2 e2:tj)(B9:u.heap[s1]? = lp (ye (Bl (rl tz 1) p1 t1 (rl tz 1) e1 (cf od 0 0)) 75))(Fs:u.heap[s2]? = lp (ye (Bl n2 p2 t2 v2 e2 (cf od 0 0)) 75))(h12:s1≠s2)(g1:gN<=s1)(g2:gN<=s2)(j13:¬J (.cell ⟨s1,3,od⟩))(j15:¬J (.cell ⟨s1,5,od⟩))(j25:¬J (.cell ⟨s2,5,od⟩))(kind:Nat)(hk:kind=1∨kind=2∨kind=3)(m:Int)(hm1:-2147483648<=m)(hm2:m<=2147483647)(p d n:ByteArray)(ver:Int)(wt:Bool)(hp:p.size<=200)(hpv:valid p=s7)(hpa:Hq p=s7)(hsl:Dj p=s7)(hd:d.size<=40)(hn:n.size<=10)(hnv:valid n=s7)(hks:ks = []∨∃P0,ks = [Dw 2 P0 0])(Di:M7 lg<=8000000000000000000)(hnum:num+1<9223372036854775807):Bz ly s7 J Stop 53 #[om (lp ⟨svb,0,od⟩),om (lp ⟨s1,0,od⟩),Mv kind m p d n ver wt] u fun x u'=>x=fh #[]/\VW J Bs u'/\((∃l:List UInt8,20<=l.length/\Told u u' s1 (rl tz 1) p1 t1 (rl tz 1) e1 l)∨R0 Bs gN u u' svb D K tb mb wm sm s1 s2 lg last num ks p1 t1 e1 n2 p2 t2 v2 e2 kind p):=by
 refine Zuk ?_
 simp only [ntmps53,na,Nat.reduceAdd,Nat.reduceSub]
 refine Avr ?_;intro u1 K1 W1 F7
 refine Iup ?_;intro nr jr
 have C1:=C.kx K1 W1 fun _ h=>h.elim
 have HCH:=SM (Stop:=Stop) U C1 (S.kf K1) p1 t1 e1 n2 p2 t2 v2 e2 (K1.get B9 id) (K1.get Fs id) h12 g1 g2 j13 j15 j25 kind hk m hm1 hm2 p d n ver wt hp hpv hpa hsl hd hn hnv hks Di hnum
 have hs2:=ltOf Fs
 refine Fck ?_
 refine Uva ?_
 refine Tvw ?_
 rcases hk with rfl|rfl|rfl
 ·refine Ak ?_
  refine Pdv ?_
  refine Cc4 ?_
  refine Dbh ?_
  refine Cc4 ?_
  refine Ljd ?_
  refine Ef (S:=env Lv) (fn:=53) rfl Ac (Dp Aa) (Bg _ _) (x:=Mv (1:Nat) m p d n ver wt) (v':=u1) (fun d'=>(Fx (J:=J) (w:=u1.at d') F7 jr _ _ rfl _ Ac).1) (fun d'=>(Fx (J:=J) (w:=u1.at d') F7 jr _ _ rfl _ Ac).2) ?_
  exact Go4
 ·refine Ak ?_
  refine Pdv ?_
  refine Fr7 ?_
  refine Fck ?_
  refine Lh6 ?_
  refine K75 ?_
  refine Dbh ?_
  refine Cc4 ?_
  refine Ljd ?_
  refine Ef (S:=env Lv) (fn:=53) rfl Ac (Dp Aa) (Bg _ _) (x:=Mv (2:Nat) m p d n ver wt) (v':=u1) (fun d'=>(Fx (J:=J) (w:=u1.at d') F7 jr _ _ rfl _ Ac).1) (fun d'=>(Fx (J:=J) (w:=u1.at d') F7 jr _ _ rfl _ Ac).2) ?_
  exact Go4
 ·refine Ak ?_
  refine Pdv ?_
  refine Fr7 ?_
  refine Fck ?_
  refine Lh6 ?_
  refine Am ?_
  refine Fr7 ?_
  refine D9q ?_
  refine Cc4 ?_
  refine Ljd ?_
  refine Ef (S:=env Lv) (fn:=53) rfl Ac (Dp Aa) (Bg _ _) (x:=Mv (3:Nat) m p d n ver wt) (v':=u1) (fun d'=>(Fx (J:=J) (w:=u1.at d') F7 jr _ _ rfl _ Ac).1) (fun d'=>(Fx (J:=J) (w:=u1.at d') F7 jr _ _ rfl _ Ac).2) ?_
  exact Go4
end
section
variable {valid:ByteArray->Bool} {Tabs:qq->Prop} {gN:Nat} {J:Loc->Prop} {Bs:Nat->Prop} {Stop:gq->qq->Prop} {u:qq} {svb D K tb mb wm sm s1 s2:Nat} {lg:Option (Nat×Nat)} {last num:Int} {ns:List (ByteArray×Nd)} {ks:List tj}
def LJ(Bs:Nat->Prop)(u u':qq)(wm s2:Nat)(p t e:tj)(pa:ByteArray):Prop:=Ar u u' (fun i=>i=s2∨i=wm)/\(∃l:List UInt8,20<=l.length/\Ov u' u.heap.size s2 (rl tz 2) p t (rl tz 1) e l)/\Lo u' wm [Dw 2 pa 0]
theorem Aaf(U:Jk valid Tabs)(C:Cx Tabs gN J Bs u)(S:Qr Bs gN u svb D K tb mb wm sm s1 s2 lg last num ns ks)(p t e:tj)(hb:u.heap[s2]? = lp (ye (Bl (rl tz 2) p t (rl tz 1) e (cf od 0 0)) 75))(hg:gN<=s2)(j0:¬J (.cell ⟨s2,0,od⟩))(j3:¬J (.cell ⟨s2,3,od⟩))(j5:¬J (.cell ⟨s2,5,od⟩))(m:Int)(hm1:-2147483648<=m)(hm2:m<=2147483647)(pa d n:ByteArray)(ver:Int)(hp:Hq pa=s7)(hps:pa.size<=1000)(hks:ks = []∨ks = [Dw 2 pa 0]) :
  Bz ly s7 J Stop 53 #[om (lp ⟨svb,0,od⟩),om (lp ⟨s2,0,od⟩),Mv 5 m pa d n ver s7] u fun x u'=>x=fh #[]/\VW J Bs u'/\LJ Bs u u' wm s2 p t e pa:=by
 have o:=S.off hb
 refine Zuk ?_
 simp only [ntmps53,na,Nat.reduceAdd,Nat.reduceSub]
 refine Fck ?_
 refine E9 (Bb 5 m pa d n ver s7) 119 ?_;walk_nrm
 refine Am ?_
 have K1:=B8 u (Bb 5 m pa d n ver s7) 119 (fun _=>False)
 have W1:=C.W.alloc (Bb 5 m pa d n ver s7) 119
 have F7:(u.alloc (ye (Bb 5 m pa d n ver s7) 119)).heap[u.heap.size]? = lp (ye (Bb 5 m pa d n ver s7) 119):=heap_alloc_new _ _
 generalize u.alloc (ye (Bb 5 m pa d n ver s7) 119)=u1 at K1 W1 F7 ⊢
 refine Iup ?_;intro nr jr
 have C1:=C.kx K1 W1 fun _ h=>h.elim
 have S1:=S.kf K1
 refine Fck ?_
 refine Uva ?_
 refine M8j ?_
 refine D9q ?_
 refine Fr7 ?_
 refine Fck ?_
 refine Lh6 ?_
 refine Am ?_
 refine Fr7 ?_
 refine D9q ?_
 refine Fr7 ?_
 refine M8j ?_
 refine D9q ?_
 refine Fr7 ?_
 refine Fck ?_
 refine Lh6 ?_
 refine K75 ?_
 refine Dbh ?_
 refine Cc4 ?_
 refine Ljd ?_
 refine Ef (S:=env Lv) (fn:=53) rfl Ac (Dp Aa) (Bg _ _) (x:=Mv 5 m pa d n ver s7) (v':=u1) (fun d'=>(Fx (J:=J) (w:=u1.at d') F7 jr _ _ rfl _ Ac).1) (fun d'=>(Fx (J:=J) (w:=u1.at d') F7 jr _ _ rfl _ Ac).2) ?_
 walk_nrm
 refine By (Abk U C1 2 p t e s2 svb D tb mb wm sm last vp num ns (K1.get hb id) hg j0 j3 j5 S1.hv S.nv o.v S1.ht S.nt S.nm S.tk ks S1.hw S.nw S.gw o.w (Fz S.hw S.ht.blk) S.wmb (Fz S.hw S.hv) Ad m hm1 hm2 pa d n ver hp hps hks) rfl Ac rfl (by walk_nrm) ?_
 rintro y u2 ⟨rfl,K2,⟨l,hl,ov,h1,h2⟩,W2,hw2⟩
 walk_nrm
 refine Au ?_
 simp only [Az,As]
 exact⟨.inl trivial,trivial,trivial,W2,(K1.mono fun _ h=>h.elim).trans K2,⟨l,hl,ov,h1,Df h2 K1.size⟩,hw2⟩
def Nt(w:qq)(b:Nat)(kind m:Int)(p d n:ByteArray)(ver:Int)(wt:Bool):qq:=((((((w.setCell ⟨b,0,od⟩ (rl tz kind)).setCell ⟨b,1,od⟩ (rl tz m)).setCell ⟨b,2,od⟩ (pt p)).setCell ⟨b,3,od⟩ (pt d)).setCell ⟨b,4,od⟩ (pt n)).setCell ⟨b,5,od⟩ (rl tz ver)).setCell ⟨b,6,od⟩ (gf wt)
theorem X1{w:qq}{b:Nat}(h:w.heap[b]? = lp (ye (Bb 0 0 ⟨#[]⟩ ⟨#[]⟩ ⟨#[]⟩ 0 vp) 119))(kind m:Int)(p d n:ByteArray)(ver:Int)(wt:Bool):Bn w (Nt w b kind m p d n ver wt) b (Bb kind m p d n ver wt) 119:=
 Bn.cast ((((((((Bn.refl h).set 0 (rl tz kind)).set 1 (rl tz m)).set 2 (pt p)).set 3 (pt d)).set 4 (pt n)).set 5 (rl tz ver)).set 6 (gf wt)) (by simp [Bb])
theorem QA{w:qq}{b:Nat}{kind m:Int}{p d n:ByteArray}{ver:Int}{wt:Bool}(h:w.heap[b]? = lp (ye (Bb 0 0 ⟨#[]⟩ ⟨#[]⟩ ⟨#[]⟩ 0 vp) 119))(hj:∀k,¬J (.cell ⟨b,k,od⟩))(o:gz)(ho:o.op=.store 119 (.tmp 6) (.tmp 24))(a:Act)(h6:a.eval (.tmp 6)=om (lp ⟨b,0,od⟩))(h24:a.eval (.tmp 24)=Mv kind m p d n ver wt) :
  (∀d',Go.Pair.Yields ly (execOp a.eval o) (w.at d') yj ((Nt w b kind m p d n ver wt).at d'))/\∀d',∀e∈(execOp a.eval o).events ly (w.at d') #[],EvJ J (Nt w b kind m p d n ver wt).heap.size e:=by
 have Di:(Nt w b kind m p d n ver wt).heap.size=w.heap.size:=by simp [Nt,size_setCell]
 refine⟨fun d'=>.inr ⟨?_,rfl⟩,fun d'=>?_⟩
 all_goals
  obtain⟨a0,a1,a2,a3,a4,a5,a6⟩:=LD (w:=(w.at d')) 0 1 2 3 4 5 6 h
  obtain⟨f0,f1,f2,f3,f4,f5,f6⟩:=Fk7 (w:=(w.at d')) 0 1 2 3 4 5 6 h
  unfold execOp
  rw [ho]
  simp only [h6,h24]
 ·go_simp
  unfold Nt
  simp only [at_set]
 ·intro e he
  simp [go_sem,a0,a1,a2,a3,a4,a5,a6,f0,f1,f2,f3,f4,f5,f6,s5 _ _ _ _ (Value.string _) zw rfl,s5 _ _ _ _ (Value.bool _) zw rfl,storedEv] at he
  have hl:b<(Nt w b kind m p d n ver wt).heap.size:=by rw [Di];exact ltOf h
  rcases he with rfl|rfl|rfl|rfl|rfl|rfl|rfl <;> exact⟨hj _,hl⟩
theorem WC(C:Cx Tabs gN J Bs u)(sb:Nat)(sv n p t e bv:tj)(hb:u.heap[sb]? = lp (ye (Bl n p t (rl tz 1) e (cf od 0 0)) 75))(j3:¬J (.cell ⟨sb,3,od⟩))(kind m:Int)(pa d nt:ByteArray)(ver:Int)(wt:Bool)(HR:∀L,Cq Bs u L->Calls ly 52 #[rl tz 1,bv] L fun x w'=>x=.returned (fh #[Mv kind m pa d nt ver wt,gf s7])/\Below L.heap.size L w')(Cd:qq->Prop)(HW:∀u2,Ar u u2 (fun _=>False)->VW J Bs u2->Bz ly s7 J Stop 53 #[sv,om (lp ⟨sb,0,od⟩),Mv kind m pa d nt ver wt] u2 fun x u'=>x=fh #[]/\Cd u') :
  Bz ly s7 J Stop 36 #[sv,om (lp ⟨sb,0,od⟩),bv] u fun x u'=>x=fh #[]/\Cd u':=by
 refine Vs0 ?_;intro Cg
 refine Guh ?_
 refine Fck ?_
 refine Nao ?_
 refine Bq (cellOf (j:=3) hb rfl) j3 Cg ?_;walk_nrm
 refine Ak ?_
 refine By (Fc (f:=52) (args:=#[rl tz 1,bv]) Ad C.W (X:=fun _=>False) (R:=fun x _=>x=fh #[Mv kind m pa d nt ver wt,gf s7]) fun L hs=>(HR L hs).mono fun x w' h=>⟨⟨_,h.1,rfl⟩,Bp h.2⟩) rfl Ac rfl (by walk_nrm) ?_
 rintro x u1 ⟨K1,W1,L1,hs1,rfl⟩
 walk_nrm
 refine Nao ?_
 refine E9 (Bb 0 0 ⟨#[]⟩ ⟨#[]⟩ ⟨#[]⟩ 0 vp) 119 ?_;walk_nrm
 have K2a:=B8 u1 (Bb 0 0 ⟨#[]⟩ ⟨#[]⟩ ⟨#[]⟩ 0 vp) 119 (fun _=>False)
 have W2a:=W1.alloc (Bb 0 0 ⟨#[]⟩ ⟨#[]⟩ ⟨#[]⟩ 0 vp) 119
 have hb2a:(u1.alloc (ye (Bb 0 0 ⟨#[]⟩ ⟨#[]⟩ ⟨#[]⟩ 0 vp) 119)).heap[u1.heap.size]? = lp (ye (Bb 0 0 ⟨#[]⟩ ⟨#[]⟩ ⟨#[]⟩ 0 vp) 119):=heap_alloc_new _ _
 generalize u1.alloc (ye (Bb 0 0 ⟨#[]⟩ ⟨#[]⟩ ⟨#[]⟩ 0 vp) 119)=u2a at K2a W2a hb2a ⊢
 refine Gz9 ?_;intro nc jc
 have SC:=QA (J:=J) (kind:=kind) (m:=m) (p:=pa) (d:=d) (n:=nt) (ver:=ver) (wt:=wt) hb2a jc
 have T2:=X1 hb2a kind m pa d nt ver wt
 refine Ef (S:=env Lv) (fn:=36) rfl Ac (Dp Aa) (Bg _ _) (x:=yj) (v':=Nt u2a u1.heap.size kind m pa d nt ver wt) (SC _ rfl _ Ac Ac).1 (SC _ rfl _ Ac Ac).2 ?_
 walk_nrm
 have W2:VW J Bs (Nt u2a u1.heap.size kind m pa d nt ver wt):=W2a.set T2 (by unfold Nt;exact NF.setCell (NF.setCell (NF.setCell (NF.setCell (NF.setCell (NF.setCell (NF.setCell W2a.nf _ _) _ _) _ _) _ _) _ _) _ _) _ _)
 generalize Nt u2a u1.heap.size kind m pa d nt ver wt=u2 at T2 W2 ⊢
 have K12:Ar u1 u2 (fun _=>False):=⟨T2.grown.os.trans K2a.os,T2.grown.tape.trans K2a.tape,T2.grown.output.trans K2a.output,aE K2a.size T2.grown.size,fun k hk _=>(T2.grown.block k (aB hk K2a.size) (fun h=>by cases h;omega)).trans (K2a.block k hk id)⟩
 refine Pdv ?_
 refine M8j ?_
 refine D9q ?_
 refine Guh ?_
 refine Ljd ?_
 refine Ef (S:=env Lv) (fn:=36) rfl Ac (Dp Aa) (Bg _ _) (x:=Mv kind m pa d nt ver wt) (v':=u2) (fun d'=>(Fx (J:=J) (w:=u2.at d') T2.blk jc _ _ rfl _ Ac).1) (fun d'=>(Fx (J:=J) (w:=u2.at d') T2.blk jc _ _ rfl _ Ac).2) ?_
 walk_nrm
 refine By (HW u2 (K1.trans K12) W2) rfl Ac rfl (by walk_nrm) ?_
 rintro y u3 ⟨rfl,h⟩
 walk_nrm
 exact Au ⟨.inl rfl,rfl,trivial,h⟩
theorem ZP(U:Jk valid Tabs)(C:Cx Tabs gN J Bs u)(sv bv n p t e:tj)(sb:Nat)(hb:u.heap[sb]? = lp (ye (Bl n p t (rl tz 0) e (cf od 0 0)) 75))(hg:gN<=sb)(j3:¬J (.cell ⟨sb,3,od⟩))(j5:¬J (.cell ⟨sb,5,od⟩))(hbv:KZ Bs u bv [0,0,0,1]) :
  Bz ly s7 J Stop 36 #[sv,om (lp ⟨sb,0,od⟩),bv] u fun x u'=>x=fh #[]/\Ar u u' (· = sb)/\VW J Bs u'/\∃ov,u'.heap[sb]? = lp (ye (Bl n p t (rl tz 1) e ov) 75)/\u'.ownsRow u.heap.size 5 1 ov 8 (A0 [0,0,0,4,0,0,0,1]):=by
 refine Vs0 ?_;intro Cg
 refine Cc4 ?_
 refine Fck ?_
 refine Nao ?_
 refine By (XX U C sv bv n p t e sb hb hg j3 j5 hbv) rfl Ac rfl (by walk_nrm) ?_
 rintro y u3 ⟨rfl,h⟩
 walk_nrm
 refine Am ?_
 exact Ez ⟨.inr rfl,rfl,trivial,h⟩
theorem TL(W:VW J Bs u)(db tb' wm' sm':Nat)(last':Int)(hv:u.heap[svb]? = lp (ye (B0 db tb' wm' sm' last' vp) 84))(nv:¬Bs svb):Bz ly s7 J Stop 29 #[om (lp ⟨svb,0,od⟩)] u fun x u'=>x=gf vp/\u'=u:=by
 have jv:∀k,¬J (.cell ⟨svb,k,od⟩):=fun k h=>nv (W.ji.cell _ h)
 refine Br func29 Ac rfl (R:=fun tmps=>tmps.getD 2 yj) (fun _ _=>results_tmp Ac _ _ _) (fun _ _=>events_results_tmp Ac _ _) ?_
 simp only [ntmps29,na,Nat.reduceAdd,Nat.reduceSub]
 refine Fck ?_
 refine Pdv ?_
 refine Fck ?_
 iterate 6(refine Ak ?_)
 refine Bq (cellOf (j:=5) hv rfl) (jv 5) (ltOf hv) ?_;walk_nrm
 refine Lh6 ?_
 refine Am ?_
 refine Ez ⟨.inr rfl,rfl,?_,rfl⟩
 walk_nrm
 first|done|rfl|simp
theorem YY(C:Cx Tabs gN J Bs u)(sb ob vb:Nat)(n p t v bv:tj)(db tb' wm' sm':Nat)(last':Int)(o:tj)(hb:u.heap[sb]? = lp (ye (Bl n p t v (gf vp) o) 75))(j4:¬J (.cell ⟨sb,4,od⟩))(hv:u.heap[svb]? = lp (ye (B0 db tb' wm' sm' last' vp) 84))(nv:¬Bs svb)(hob:u.heap[ob]? = lp (ye #[om (lp ⟨sb,0,od⟩)] 69))(nob:¬Bs ob)(hvb:u.heap[vb]? = lp (ye #[om (lp ⟨svb,0,od⟩)] 61))(nvb:¬Bs vb)(Cd:qq->Prop)(HT:Bz ly s7 J Stop 36 #[om (lp ⟨svb,0,od⟩),om (lp ⟨sb,0,od⟩),bv] u fun x u'=>x=fh #[]/\Cd u') :
  Bz ly s7 J Stop 35 #[bv,om (lp ⟨ob,0,od⟩),om (lp ⟨vb,0,od⟩)] u fun x u'=>x=fh #[]/\Cd u':=by
 have Cg:=ltOf hb
 have jo:∀k,¬J (.cell ⟨ob,k,od⟩):=fun k h=>nob (C.W.ji.cell _ h)
 have jvb:∀k,¬J (.cell ⟨vb,k,od⟩):=fun k h=>nvb (C.W.ji.cell _ h)
 refine Kao ?_;intro jv
 refine Br func35 Ac rfl (R:=fun _=>fh #[]) (fun _ _=>results_none Ac _ _ _) (fun _ _=>events_results_none Ac _ _) ?_
 simp only [ntmps35,na,Nat.reduceAdd,Nat.reduceSub]
 refine Fck ?_
 refine Bq (cellOf (j:=0) hob rfl) (jo 0) (ltOf hob) ?_;walk_nrm
 refine Lh6 ?_
 refine Bq (cellOf (j:=4) hb rfl) j4 Cg ?_;walk_nrm
 refine Lh6 ?_
 refine Bq (cellOf (j:=0) hvb rfl) (jvb 0) (ltOf hvb) ?_;walk_nrm
 refine By (TL C.W db tb' wm' sm' last' hv nv) rfl Ac rfl (by walk_nrm) ?_
 rintro x w0 ⟨rfl,hu⟩
 rw [hu]
 clear hu
 walk_nrm
 refine Lh6 ?_
 refine K75 ?_
 refine A5 ?_
 refine Bq (cellOf (j:=0) hvb rfl) (jvb 0) (ltOf hvb) ?_;walk_nrm
 refine Bq (cellOf (j:=0) hob rfl) (jo 0) (ltOf hob) ?_;walk_nrm
 refine Ak ?_
 refine By HT rfl Ac rfl (by walk_nrm) ?_
 rintro y u3 ⟨rfl,h⟩
 walk_nrm
 exact Au ⟨.inl rfl,rfl,trivial,h⟩
end
def Code.one:s9->s9|.seq x _=>x|c=>c
def Code.two:s9->s9|.seq _ x=>x|c=>c
def Code.core:s9->s9|.block _ x=>x|.loop x=>x|c=>c
def Code.yes:s9->s9|.cond _ x _=>x|c=>c
noncomputable def Fv:s9:=match f49.body with|some c=>c|none=>.skip
noncomputable def Hk:s9:=Code.core (Code.core Fv)
noncomputable def MU:s9:=Code.one Hk
noncomputable def G5:s9:=Code.core (Code.two Hk)
noncomputable def XE:s9:=Code.one G5
noncomputable def XF:s9:=Code.one (Code.two G5)
noncomputable def XG:s9:=Code.one (Code.two (Code.two G5))
noncomputable def XH:s9:=Code.one (Code.two (Code.two (Code.two G5)))
noncomputable def GZ:s9:=Code.two (Code.two (Code.two (Code.two G5)))
noncomputable def XI:s9:=Code.one GZ
noncomputable def Y9:s9:=Code.yes (Code.two GZ)
noncomputable def C9(c b ch n:tj)(u:Nat->tj):Act:=
 {tmps:=#[c,b,ch,yj,yj,yj,n,u 7,u 8,u 9,u 10,u 11,u 12,u 13,u 14,u 15,u 16,u 17,u 18,u 19,u 20,u 21,u 22,u 23,u 24,u 25,u 26,u 27,u 28,u 29,u 30,u 31,u 32,u 33,u 34,u 35,u 36,u 37,u 38,u 39,u 40,u 41,u 42,u 43,u 44,u 45,u 46,u 47,u 48,u 49,u 50,u 51],defers:=[] }
theorem Is{c b ch n:tj}(a:Act)(h:a=C9 c b ch n fun i=>a.tmps.getD i yj):∃u,a=C9 c b ch n u:=⟨_,h⟩
theorem CK(x y:Int)(w:qq):(Builtin.min_ #[3,3] 3 #[rl tz x,rl tz y]).events ly w #[]=#[]:=by
 simp [Builtin.min_,Builtin.min2,List.foldlM]
theorem Rq(w:qq)(es:Array Event)(a:Option Addr)(len cap:Nat)(h:Int)(h0:0<=h)(h1:h<=cap):(Instr.sliceAt 35 (cf a len cap) od (lp (rl tz h)) od).events ly w es=es:=by
 exact Irp
theorem Zg(w:qq)(es:Array Event)(a:Option Addr)(len cap:Nat)(l:Int)(h0:0<=l)(h1:l<=len):(Instr.sliceAt 35 (cf a len cap) (lp (rl tz l)) od od).events ly w es=es:=by
 exact Irp
def Lq(x o j cap:Nat):Option Addr:=if cap=j then lp ⟨x,o,od⟩ else lp ⟨x,o+j,od⟩
section
variable {main:Bool} {J:Loc->Prop} {Bs:Nat->Prop} {Stop:gq->qq->Prop} {u:qq}
theorem Pq{fn:FuncId}{Q:Exit->Act->qq->Prop}{a:Act}{w:qq}{ops:Array gz}{i:Nat}{l:List Nat}{o:gz}{f:FuncId}{args:Array Operand}{ats:Array TypeId}{xs:Array tj}{Cd:tj->qq->Prop}(Gh:Bz ly main J Stop f xs w Cd)(ho:ops[i]? = lp o)(hw:br o (yielded ops a.tmps)=s7)(Bt:o.op=.call { callee:=.value (.func f),args,argTypes:=ats })(hargs:args.map a.eval=xs)(Bo:∀v w',Cd v w'->opsV ly main J Stop fn ops l Q (a.put o.dst v) w'):opsV ly main J Stop fn ops (i :: l) Q a w:=
 Q8 ho hw Bt (by rw [hargs];exact Gh) Bo
theorem Yr{ops:Array gz}{I:qq->Prop}{a:Act}{w v':qq}{x:tj}{md:Region.Mode}{Q:Exit->Act->qq->Prop}{i fuel:Nat}{done:Array Bool}{o:gz}{S:Env}{fn:FuncId}(hI:∀w d,I w->I (w.at d))(hQ:∀a w d,Q .normal a w->Q .normal a (w.at d))(hrd:Region.ready md ops done = [i])(ho:ops[i]? = lp o)(hw:br o (yielded ops a.tmps)=s7)(hT:Sj ly S fn o)(Ga:S.reg fn a.tmps)(hr:∀d,Go.Pair.Yields ly (execOp a.eval o) (w.at d) x (v'.at d))(he:∀d,∀e∈(execOp a.eval o).events ly (w.at d) #[],EvJ J v'.heap.size e)(hS:I v')(h:A6 ly main J Stop md ops Q I fuel (done.setIfInBounds i s7) (a.put o.dst x) v'):A6 ly main J Stop md ops Q I (fuel+1) done a w:=by
 refine Bnc ?_;intro hT'
 exact A6.only hrd (.op o ho hw fun d=>⟨x,v'.at d,DZ hT' (hr d) (he d),hI _ d hS,A6.at hI hQ _ _ _ _ d h⟩)
theorem BR{ops:Array gz}{I:qq->Prop}{a:Act}{w:qq}{md:Region.Mode}{Q:Exit->Act->qq->Prop}{i fuel:Nat}{done:Array Bool}{o:gz}{S:Env}{fn:FuncId}(W:VW J Bs w)(hrd:Region.ready md ops done = [i])(ho:ops[i]? = lp o)(hw:br o (yielded ops a.tmps)=s7)(hT:Sj ly S fn o)(Ga:S.reg fn a.tmps){R:tj->qq->Prop}(H:∀L,Cq Bs w L->∃x L',Go.Pair.Yields ly (execOp a.eval o) L x L'/\R x L')(Bo:∀x w' L',Kept Bs w w'->Cq Bs w' L'->R x L'->I w'/\A6 ly main J Stop md ops Q I fuel (done.setIfInBounds i s7) (a.put o.dst x) w'):A6 ly main J Stop md ops Q I (fuel+1) done a w:=by
 exact Cfw
theorem Aa1(ba:Option Addr)(bl bcap:Nat)(hb:0<bl)(c ch n:tj)(x:Nat->tj) :
  N5 ly main J Stop 49 MU (fun e a' u'=>e=.normal/\(∃x',a'=C9 c (cf ba bl bcap) ch n x')/\u'=u) (C9 c (cf ba bl bcap) ch n x) u:=by
 have Es:(0:Int)<(bl:Int):=Ab
 simp only [MU,Hk,Fv,Code.core,Code.one,ft,C9]
 refine Fck ?_
 refine Nao ?_
 refine Am ?_
 refine Bi (t:=s7) (by walk_nrm;simp only [pz,decide_eq_true_eq];exact Es) ?_
 simp only [bC]
 refine Dbh ?_
 exact⟨Aj,Is _ rfl,Aj⟩
theorem Aa2(ba:Option Addr)(bl bcap m:Nat)(hm:m<=bl)(c ch n:tj)(x:Nat->tj)(HM:Bz ly main J Stop 87 #[c] u fun y u'=>y=rl tz m/\Ar u u' (fun _=>False)/\VW J Bs u') :
  N5 ly main J Stop 49 XE (fun e a' u'=>e=.normal/\(∃x',a'=C9 c (cf ba bl bcap) ch (rl tz m) x')/\Ar u u' (fun _=>False)/\VW J Bs u') (C9 c (cf ba bl bcap) ch n x) u:=by
 have hm':(m:Int)<=(bl:Int):=Ab
 have hm2:¬(bl:Int)<(m:Int):=Ab
 simp only [XE,G5,Hk,Fv,Code.core,Code.one,Code.two,ft,C9]
 refine A5 ?_
 refine Ak ?_
 refine Pq HM rfl Ac rfl (by walk_nrm) ?_
 rintro y u1 ⟨rfl,K1,W1⟩
 walk_nrm
 refine Lh6 ?_
 refine Iv (x:=rl tz m) rfl Ac (fun w=>by go_simp;first|done|omega) (fun w=>by have hev:=CK (m:Int) bl w;go_simp) ?_
 walk_nrm
 refine Pdv ?_
 exact⟨Aj,Is _ rfl,K1,W1⟩
structure Lf(J:Loc->Prop)(Bs:Nat->Prop)(u:qq)(sb bb:Nat)(n t v e o pv:tj)(l:List UInt8):Prop where
 W:VW J Bs u
 nb:¬Bs sb
 nbb:¬Bs bb
 hbs:bb≠sb
 blk:u.heap[sb]? = lp (ye (Bl n pv t v e o) 75)
 own:u.ownsRow 0 5 1 pv l.length (A0 l)
 ap:∀g,pv.ownBlock=lp g->g<u.heap.size/\g≠sb/\g≠bb/\¬Bs g
theorem Ff{L:qq}{n:Nat}{pv:tj}{xs:List tj}(h:u.ownsRow 0 5 1 pv n xs)(hk:∀g,pv.ownBlock=lp g->L.heap[g]? = u.heap[g]?):L.ownsRow 0 5 1 pv n xs:=by
 obtain⟨h0,h1|⟨g,cap,cur,rfl,h2,h3,h4⟩⟩:=h
 ·exact⟨h0,.inl h1⟩
 ·exact⟨h0,.inr ⟨g,cap,cur,rfl,h2,by rw [hk g rfl];exact h3,h4⟩⟩
theorem Lf.at{sb bb:Nat}{n t v e o pv:tj}{l:List UInt8}(h:Lf J Bs u sb bb n t v e o pv l)(d:Nat):Lf J Bs (u.at d) sb bb n t v e o pv l:=⟨h.W.at d,h.nb,h.nbb,h.hbs,h.blk,h.own,h.ap⟩
theorem Sd(w:qq)(pv:tj)(l r:List UInt8)(bb off cap m:Nat)(Db:w.ownsRow 0 5 1 pv l.length (A0 l))(hb:Bytes w bb off r)(hm:m=r.length)(h0:0<m)(hl:l.length+m<=5000) :
  ∃g c w',(Builtin.append_ #[35,35] 35 #[pv,cf (lp ⟨bb,off,od⟩) m cap]).run ly w=.ok (cf (lp ⟨g,0,od⟩) (l++r).length c) w'/\w'.ownsRow 0 5 1 (cf (lp ⟨g,0,od⟩) (l++r).length c) (l++r).length (A0 (l++r))/\Ar w w' (fun i=>pv.ownBlock=lp i)/\(pv.ownBlock=lp g∨g=w.heap.size):=by
 subst hm
 obtain⟨i0,hi0,hz0,hz1,hz2⟩:=info_parts Tryz.info5
 have hnews:∀(j:Nat) (u:tj),(A0 r)[j]? = lp u->w.cell? ((⟨bb,off,od⟩:Addr).add j)=lp u:=fun j u hu=>by
  have hj:j<r.length:=by have:=(aW.1 hu).1;simpa [A0] using this
  have h1:=hb j hj
  simp only [A0,bX,aR hj,bA,aL] at hu
  rw [←hu,Addr.add_lit]
  exact h1
 obtain⟨g,c,w',hr,h2,h3,h4,h5⟩:=run_append_lies (P:=ly) w 35 35 0 5 i0 _ 1 1 underlying35 hi0 hz0 hz1 hz2 rfl Ad pv l.length _ Db ⟨bb,off,od⟩ r.length cap (A0 r) (by simp [A0]) hnews (No r) h0 (by simp only [maxLen];omega) Ab (cC _) _ rfl
 rw [←I2,←aH] at h2
 rw [←aH] at hr
 exact⟨g,c,w',hr,h2,⟨h3.os,h3.tape,h3.output,h3.size,fun k hk hx=>h3.block k hk (fun h=>hx h.symm)⟩,h4⟩
theorem Aa3(sb bb off bcap m:Nat)(n t v e o pv:tj)(l r rest:List UInt8)(C:Lf J Bs u sb bb n t v e o pv l)(hb:Bytes u bb off (r++rest))(hm:r.length=m)(h0:0<m)(hl:l.length+m<=5000)(Ea:m<=bcap)(ch:tj)(x:Nat->tj) :
  N5 ly main J Stop 49 XF (fun e' a' u'=>e'=.normal/\(∃x',a'=C9 (om (lp ⟨sb,1,od⟩)) (cf (lp ⟨bb,off,od⟩) (r++rest).length bcap) ch (rl tz m) x')/\Ar u u' (fun i=>i=sb∨pv.ownBlock=lp i)/\Bytes u' bb off (r++rest) /\
   ∃g c,Lf J Bs u' sb bb n t v e o (cf (lp ⟨g,0,od⟩) (l++r).length c) (l++r)/\(pv.ownBlock=lp g∨u.heap.size<=g)) (C9 (om (lp ⟨sb,1,od⟩)) (cf (lp ⟨bb,off,od⟩) (r++rest).length bcap) ch (rl tz m) x) u:=by
 have h1:(m:Int)<=(bcap:Int):=Ab
 have h3:(0:Int)<=(m:Int):=Ab
 have js:∀k,¬J (.cell ⟨sb,k,od⟩):=fun k h=>C.nb (C.W.ji.cell _ h)
 have hbr:Bytes u bb off r:=fun i hi=>by
  have:=hb i Ag
  rwa [List.getElem_append_left hi] at this
 generalize (r++rest).length=bl at *
 obtain⟨pa,pn,pc,rfl⟩:∃a k c,pv=cf a k c:=by
  rcases C.own with⟨_,⟨rfl,_⟩|⟨g,cap,cur,rfl,_⟩⟩ <;> exact⟨_,_,_,rfl⟩
 have hI:∀(w:qq) (d:Nat),True->True:=fun _ _ h=>h
 have hQ:∀(a:Act) (w:qq) (d:Nat),((kr=kr)/\(∃x',a=C9 (om (lp ⟨sb,1,od⟩)) (cf (lp ⟨bb,off,od⟩) bl bcap) ch (rl tz m) x')/\Ar u w (fun i=>i=sb∨(cf pa pn pc).ownBlock=lp i)/\Bytes w bb off (r++rest)/\∃g c,Lf J Bs w sb bb n t v e o (cf (lp ⟨g,0,od⟩) (l++r).length c) (l++r)/\((cf pa pn pc).ownBlock=lp g∨u.heap.size<=g)) ->
   ((kr=kr)/\(∃x',a=C9 (om (lp ⟨sb,1,od⟩)) (cf (lp ⟨bb,off,od⟩) bl bcap) ch (rl tz m) x')/\Ar u (w.at d) (fun i=>i=sb∨(cf pa pn pc).ownBlock=lp i)/\Bytes (w.at d) bb off (r++rest)/\∃g c,Lf J Bs (w.at d) sb bb n t v e o (cf (lp ⟨g,0,od⟩) (l++r).length c) (l++r)/\((cf pa pn pc).ownBlock=lp g∨u.heap.size<=g)):=
  fun a w d ⟨q1,q2,q3,q4,g,c,q5,q6⟩=>⟨q1,q2,q3.at d,q4,g,c,q5.at d,q6⟩
 simp only [XF,G5,Hk,Fv,Code.core,Code.one,Code.two,ft,C9]
 refine Ei (I:=fun _=>True) Ac fun d0=>?_
 refine A6.tp 0 hI hQ trivial ?_;walk_nrm
 refine A6.tp 1 hI hQ trivial ?_;walk_nrm
 refine A6.tp 2 hI hQ trivial ?_;walk_nrm
 refine A6.tp 3 hI hQ trivial ?_;walk_nrm
 refine A6.tp 5 hI hQ trivial ?_;walk_nrm
 refine A6.tp 6 hI hQ trivial ?_;walk_nrm
 refine A6.take (i:=7) (x:=cf (lp ⟨bb,off,od⟩) m bcap) hI hQ rfl Aa Aa Aa (Yf Ac (fun w=>by go_simp;first|done|rfl) (fun w=>by have hev:=fun es=>Rq w es (lp ⟨bb,off,od⟩) bl bcap m h3 h1;go_simp;first|done|rfl)) trivial ?_
 walk_nrm
 have C0:=C.at d0
 have c1:=Kl (w:=(u.at d0)) 1 C0.blk
 refine Yr (i:=4) (S:=env Lv) (fn:=0) hI hQ Aa rfl Ac (Dp Aa) (Bg _ _) (x:=cf pa pn pc) (v':=u.at d0) (fun d=>.inl (by have hc:=(show q7 ((u.at d0).at d) _=lp (cf pa pn pc) from c1);walk_nrm;go_simp)) (fun d=>by have hc:=(show q7 ((u.at d0).at d) _=lp (cf pa pn pc) from c1);walk_nrm;intro e he;simp [go_sem,hc] at he;subst he;exact⟨js 1,ltOf C0.blk⟩) trivial ?_
 walk_nrm
 refine BR (i:=8) (S:=env Lv) (fn:=0) C0.W Aa rfl Ac (Dp Aa) (Bg _ _) (R:=fun ov L'=>∃L,Cq Bs (u.at d0) L/\Ar L L' (fun i=>(cf pa pn pc).ownBlock=lp i)/\∃g c,ov=cf (lp ⟨g,0,od⟩) (l++r).length c/\L'.ownsRow 0 5 1 ov (l++r).length (A0 (l++r))/\((cf pa pn pc).ownBlock=lp g∨g=L.heap.size)) (fun L hs=>?_) ?_
 ·obtain⟨g,c,w',hr,k1,k2,k3⟩:=Sd L _ l r bb off bcap m (Ff C0.own fun g hg=>hs.same C0.W.nf (C0.ap g hg).2.2.2) (fun i hi=>(Ew (hs.same C0.W.nf C0.nbb)).trans (hbr i hi)) hm.symm h0 hl
  refine⟨_,w',.inl ?_,L,hs,k2,g,c,rfl,k1,k3⟩
  exact M3b
 rintro ov u1 L' hk hs' ⟨L,hs,hX,g,c,rfl,ho,hg⟩
 refine⟨trivial,?_⟩
 have hn1:=hk.nf C0.W.nf
 have K0:Ar (u.at d0) u1 (fun i=>(cf pa pn pc).ownBlock=lp i):=Ks C0.W.nf hs hk hs' hX
 have K1:Ar u u1 (fun i=>(cf pa pn pc).ownBlock=lp i):=⟨K0.os,K0.tape,K0.output,K0.size,K0.block⟩
 have W1:VW J Bs u1:=C0.W.kx (fun i hi=>hk.keep i hi) hn1
 have B9:u1.heap[sb]? = lp (ye (Bl n (cf pa pn pc) t v e o) 75):=(K1.block sb (ltOf C.blk) (fun h=>(C.ap sb h).2.1 rfl)).trans C.blk
 have hls:L.heap.size=u.heap.size:=hs.size
 have gB:¬Bs g:=by
  rcases hg with h|h
  ·exact(C.ap g h).2.2.2
  ·exact fun hB=>by have:=C.W.lt hB;omega
 have ho1:u1.ownsRow 0 5 1 (cf (lp ⟨g,0,od⟩) (l++r).length c) (l++r).length (A0 (l++r)):=Ff ho fun g' e'=>by
  obtain rfl:g=g':=by simpa [qb] using e'
  exact(hs'.same hn1 gB).symm
 have gsz:g≠sb/\g≠bb:=by
  rcases hg with h|h
  ·exact⟨(C.ap g h).2.1,(C.ap g h).2.2.1⟩
  ·have:=ltOf C.blk
   refine⟨Ab,fun e'=>?_⟩
   have h2:0<r.length:=Ab
   have h4:=hbr 0 h2
   rw [←e',h,hls] at h4
   simp [q7] at h4
 have hbt1:Bytes u1 bb off (r++rest):=fun i hi=>by
  have h4:=hb i hi
  have h5:bb<u.heap.size:=by
   exact Kju
  exact(Ew (K1.block bb h5 (fun h=>(C.ap bb h).2.2.1 rfl))).trans h4
 generalize hnl:(l++r).length=nl at *
 walk_nrm
 refine A6.tp 9 hI hQ trivial ?_;walk_nrm
 refine A6.tp 10 hI hQ trivial ?_;walk_nrm
 have c5:=Kl (w:=u1) 1 B9
 have f5:=EX (w:=u1) 1 B9
 have hl1:=ltOf B9
 refine Yr (i:=11) (S:=env Lv) (fn:=0) hI hQ Aa rfl Ac (Dp Aa) (Bg _ _) (x:=yj) (v':=u1.setCell ⟨sb,1,od⟩ (cf (lp ⟨g,0,od⟩) nl c)) (fun d=>.inr ⟨by have hc:=(show q7 (u1.at d) _=_ from c5);have hf:=(show World.frozen? (u1.at d) _=vp from f5);walk_nrm;go_simp;first|done|rfl,rfl⟩) (fun d=>by have hc:=(show q7 (u1.at d) _=_ from c5);have hf:=(show World.frozen? (u1.at d) _=vp from f5);walk_nrm;intro e he;simp [go_sem,hc,hf,s5 _ _ _ _ (cf _ _ _) zw rfl,storedEv] at he;subst he;exact⟨js 1,by rw [size_setCell];exact hl1⟩) trivial ?_
 walk_nrm
 have T9:Bn u1 (u1.setCell ⟨sb,1,od⟩ (cf (lp ⟨g,0,od⟩) nl c)) sb (Bl n (cf (lp ⟨g,0,od⟩) nl c) t v e o) 75:=(Bn.refl B9).set 1 _
 have W9:=W1.set T9 (NF.setCell hn1 _ _)
 have G9:∀i,i<u1.heap.size->i≠sb->(u1.setCell ⟨sb,1,od⟩ (cf (lp ⟨g,0,od⟩) nl c)).heap[i]? = u1.heap[i]?:=fun i hi Cu=>T9.grown.block i hi (fun h=>Cu Ah)
 have z9:(u1.setCell ⟨sb,1,od⟩ (cf (lp ⟨g,0,od⟩) nl c)).heap.size=u1.heap.size:=size_setCell _ _ _
 have gl:g<u1.heap.size:=by
  obtain⟨_,⟨h,_⟩|⟨g',cap,cur,h,_,h3,_⟩⟩:=ho1
  ·cases h
  ·cases h;exact ltOf h3
 generalize u1.setCell ⟨sb,1,od⟩ (cf (lp ⟨g,0,od⟩) nl c)=u9 at T9 W9 G9 z9 ⊢
 have ho9:u9.ownsRow 0 5 1 (cf (lp ⟨g,0,od⟩) nl c) (l++r).length (A0 (l++r)):=by
  rw [hnl]
  refine Ff ho1 fun g' e'=>?_
  obtain rfl:g=g':=by simpa [qb] using e'
  exact G9 g gl gsz.1
 refine A6.all Aa ⟨rfl,Is _ rfl,(K1.mono fun _ h=>.inr h).trans (Ar.of_grown T9.grown (.inl (.inl rfl))),fun i hi=>?_,g,c,⟨W9,C.nb,C.nbb,C.hbs,T9.blk,ho9,fun g' e'=>?_⟩,hg.imp id fun h=>Ab⟩ _
 ·have h4:=hbt1 i hi
  have h5:bb<u1.heap.size:=by
   exact Kju
  exact(Ew (G9 bb h5 C.hbs)).trans h4
 ·obtain rfl:g=g':=by simpa [qb] using e'
  exact⟨Ab,gsz.1,gsz.2,gB⟩
theorem Aa4(bb off bl bcap m:Nat)(hm:m<=bl)(hbc:bl<=bcap)(c ch:tj)(x:Nat->tj) :
  N5 ly main J Stop 49 XG (fun e a' u'=>e=.normal/\(∃x',a'=C9 c (cf (Lq bb off m bcap) (bl - m) (bcap - m)) ch (rl tz m) x')/\u'=u) (C9 c (cf (lp ⟨bb,off,od⟩) bl bcap) ch (rl tz m) x) u:=by
 have h1:(m:Int)<=(bl:Int):=Ab
 have h2:(bl:Int)<=(bcap:Int):=Ab
 have h3:(0:Int)<=(m:Int):=Ab
 simp only [XG,G5,Hk,Fv,Code.core,Code.one,Code.two,ft,C9]
 refine Ljd ?_
 refine Iv (x:=cf (Lq bb off m bcap) (bl - m) (bcap - m)) rfl Ac (fun w=>by go_simp;first|done|rfl) (fun w=>by have hev:=fun es=>Zg w es (lp ⟨bb,off,od⟩) bl bcap m h3 h1;go_simp;first|done|rfl) ?_
 walk_nrm
 refine Pdv ?_
 exact⟨Aj,Is _ rfl,Aj⟩
theorem Aa5(b:tj)(U:Nat)(hU:U<=1000)(c ch n:tj)(x:Nat->tj)(HL:Bz ly main J Stop 88 #[c] u fun y u'=>y=rl .u64 U/\Ar u u' (fun _=>False)/\VW J Bs u') :
  N5 ly main J Stop 49 XH (fun e a' u'=>e=.normal/\(∃x',a'=C9 c b ch n x')/\Ar u u' (fun _=>False)/\VW J Bs u') (C9 c b ch n x) u:=by
 have h1:¬(1000:Int)<(U:Int):=Ab
 simp only [XH,G5,Hk,Fv,Code.core,Code.one,Code.two,ft,C9]
 refine Fck ?_
 refine Ak ?_
 refine Pq HL rfl Ac rfl (by walk_nrm) ?_
 rintro y u1 ⟨rfl,K1,W1⟩
 walk_nrm
 refine Pdv ?_
 refine Bi (t:=vp) (by walk_nrm;simp only [pz,decide_eq_false_iff_not];exact h1) ?_
 simp only [bQ,aV]
 refine Dbh ?_
 exact⟨Aj,Is _ rfl,K1,W1⟩
theorem Aa6(b:tj)(m:Int)(c ch n:tj)(x:Nat->tj)(HM:Bz ly main J Stop 87 #[c] u fun y u'=>y=rl tz m/\Ar u u' (fun _=>False)/\VW J Bs u') :
  N5 ly main J Stop 49 XI (fun e a' u'=>e=.normal/\(∃x',a'=C9 c b ch n x'/\x' 40=gf (decide (m=0)))/\Ar u u' (fun _=>False)/\VW J Bs u') (C9 c b ch n x) u:=by
 simp only [XI,GZ,G5,Hk,Fv,Code.core,Code.one,Code.two,ft,C9]
 refine A5 ?_
 refine Ak ?_
 refine Pq HM rfl Ac rfl (by walk_nrm) ?_
 rintro y u1 ⟨rfl,K1,W1⟩
 walk_nrm
 refine Ex (gf (decide (m=0))) ?_;walk_nrm
 refine Am ?_
 exact⟨Aj,⟨fun i=>([yj,yj,yj,yj,yj,yj,yj,x 7,x 8,x 9,x 10,x 11,x 12,x 13,x 14,x 15,x 16,x 17,x 18,x 19,x 20,x 21,x 22,x 23,x 24,x 25,x 26,x 27,x 28,x 29,x 30,x 31,x 32,x 33,x 34,x 35,x 36,x 37,c,rl tz m,gf (decide (m=0)),x 41,x 42,x 43,x 44,x 45,x 46,x 47,x 48,x 49,x 50,x 51]:List tj).getD i yj,rfl,rfl⟩,K1,W1⟩
end
noncomputable def SO:s9:=Code.one Y9
noncomputable def SP:s9:=Code.two Y9
noncomputable def Xe:s9:=.cond (.tmp 40) (.seq SO SP) .skip
noncomputable def Xg:s9:=.seq MU (.block 1 (.seq XE (.seq XF (.seq XG (.seq XH (.seq XI Xe))))))
theorem XJ:Fv=.block 0 (.loop Xg):=rfl
section
variable {main:Bool} {J:Loc->Prop} {Bs:Nat->Prop} {Stop:gq->qq->Prop} {u u':qq} {sb bb:Nat} {n t v e o pv:tj} {l:List UInt8}
theorem Lf.kx(C:Lf J Bs u sb bb n t v e o pv l)(K:Ar u u' (fun _=>False))(W:VW J Bs u'):Lf J Bs u' sb bb n t v e o pv l:=
 ⟨W,C.nb,C.nbb,C.hbs,(K.block _ (ltOf C.blk) fun h=>h).trans C.blk,Ff C.own fun g hg=>K.block g (C.ap g hg).1 fun h=>h,fun g hg=>⟨aB (C.ap g hg).1 K.size,(C.ap g hg).2⟩⟩
theorem Y5{w:qq}{b off:Nat}{r:List UInt8}(h:Bytes w b off r)(h0:0<r.length):b<w.heap.size:=by
 have h4:=h 0 h0
 exact Kju
theorem Y4{X:Nat->Prop}{b off:Nat}{r:List UInt8}(h:Bytes u b off r)(K:Ar u u' X)(hX:¬X b):Bytes u' b off r:=fun i hi=>(Ew (K.block b (Y5 h Ab) hX)).trans (h i hi)
theorem Og{w:qq}(h:w.ownsRow 0 5 1 pv l.length (A0 l))(h0:0<l.length):∃g cap,pv=cf (lp ⟨g,0,od⟩) l.length cap/\l.length<=cap/\Bytes w g 0 l:=by
 obtain⟨_,⟨_,h1⟩|⟨g,cap,cur,rfl,_,hb,hc,hm,hs,ht⟩⟩:=h
 ·omega
 ·refine⟨g,cap,rfl,hc,fun i hi=>?_⟩
  have e1:(cur.toList.take (l.length * 1))[i]? = lp (rl .u8 l[i].toNat):=by rw [ht];simp [A0,aR hi]
  rw [cK Ab,dC] at e1
  rw [aM]
  exact cellOf (j:=i) hb e1
def Vm(l:List UInt8):Int:=if l.length<4 then 4 - l.length else 4+uns (l.take 4) - l.length
theorem Zv(C:Lf J Bs u sb bb n t v e o pv l)(hl:l.length<=5000):Bz ly main J Stop 87 #[om (lp ⟨sb,1,od⟩)] u fun y u'=>y=rl tz (Vm l)/\Ar u u' (fun _=>False)/\VW J Bs u':=by
 refine Dm (Fc (f:=87) Ad C.W (X:=fun _=>False) (R:=fun x _=>x=rl tz (Vm l)) fun L hs=>?_) fun x u' ⟨h1,h2,_,_,h3⟩=>⟨h3,h1,h2⟩
 refine Goo ?_;intro hbL hoL
 unfold Vm
 by_cases h4:l.length<4
 ·rw [aQ h4]
  obtain⟨pa,pc,rfl⟩:∃a c,pv=cf a l.length c:=by
   rcases hoL with⟨_,⟨rfl,h⟩|⟨g,cap,cur,rfl,_⟩⟩
   ·exact⟨_,_,by rw [h]⟩
   ·exact⟨_,_,rfl⟩
  exact(Vn L sb 1 pa l.length pc (cellOf (j:=1) hbL rfl) h4).mono fun e w' h=>⟨⟨_,h.1,rfl⟩,by rw [h.2];exact Ar.refl _ _⟩
 ·rw [aO h4]
  obtain⟨g,pc,rfl,hc,hby⟩:=Og hoL Ab
  exact(Zw L sb 1 g 0 l.length pc (cellOf (j:=1) hbL rfl) Ab hc hl (l.take 4) Ag (fun i hi=>by
   have hi':i<l.length:=by simp at hi;omega
   rw [List.getElem_take];exact hby i hi')).mono fun e w' h=>⟨⟨_,h.1,rfl⟩,Bp h.2⟩
theorem TN(C:Lf J Bs u sb bb n t v e o pv l)(h4:4<=l.length):Bz ly main J Stop 88 #[om (lp ⟨sb,1,od⟩)] u fun y u'=>y=rl .u64 (uns (l.take 4))/\Ar u u' (fun _=>False)/\VW J Bs u':=by
 refine Dm (Fc (f:=88) Ad C.W (X:=fun _=>False) (R:=fun x _=>x=rl .u64 (uns (l.take 4))) fun L hs=>?_) fun x u' ⟨h1,h2,_,_,h3⟩=>⟨h3,h1,h2⟩
 refine Goo ?_;intro hbL hoL
 obtain⟨g,pc,rfl,hc,hby⟩:=Og hoL Ab
 exact(Uh L sb 1 g 0 l.length pc (cellOf (j:=1) hbL rfl) h4 hc (l.take 4) Ag (fun i hi=>by
   have hi':i<l.length:=by simp at hi;omega
   rw [List.getElem_take];exact hby i hi')).mono fun e w' h=>⟨⟨_,h.1,rfl⟩,by rw [h.2];exact Ar.refl _ _⟩
theorem Aaw(C:Lf J Bs u sb bb n t v e o pv l)(h4:4<l.length)(hl:l.length<=5000):Bz ly main J Stop 89 #[om (lp ⟨sb,1,od⟩)] u fun y u'=>y=cf (lp ⟨u.heap.size,0,od⟩) (l.length - 4) (l.length - 4)/\u'.heap[u.heap.size]? = lp (ye (A0 (l.drop 4)).toArray 5)/\Ar u u' (fun _=>False)/\VW J Bs u':=by
 refine Dm (Fc (f:=89) Ad C.W (X:=fun _=>False) (R:=fun x w'=>x=cf (lp ⟨u.heap.size,0,od⟩) (l.length - 4) (l.length - 4)/\w'.heap[u.heap.size]? = lp (ye (A0 (l.drop 4)).toArray 5)) fun L hs=>?_) fun x u' ⟨h1,h2,L',hs',h3,h4⟩=>⟨h3,(hs'.same h2.nf fun hB=>by have:=C.W.lt hB;omega).symm.trans h4,h1,h2⟩
 refine Goo ?_;intro hbL hoL
 obtain⟨g,pc,rfl,hc,hby⟩:=Og hoL Ab
 refine(MC L sb 1 g l.length pc (cellOf (j:=1) hbL rfl) h4 hc hl (ltOf hbL) l rfl (Y5 hby Ab) hby).mono fun e w' h=>?_
 rw [hs.size] at h
 exact⟨⟨_,h.1,rfl,h.2.1⟩,Bp (by rw [hs.size];exact h.2.2)⟩
theorem PQ(off bcap:Nat)(r rest:List UInt8)(C:Lf J Bs u sb bb n t v e o pv l)(hb:Bytes u bb off (r++rest))(hm:Vm l=r.length)(h0:0<r.length)(h4:4<=(l++r).length)(hl:(l++r).length<=5000)(hU:uns ((l++r).take 4)<=1000)(Ea:(r++rest).length<=bcap)(ch n6:tj)(x:Nat->tj){b:qg}{k:List Item}{z:List qg}(hbf:b.fn=49)(hbk:b.kind=.normal)(Bo:∀x' u' g c,Lf J Bs u' sb bb n t v e o (cf (lp ⟨g,0,od⟩) (l++r).length c) (l++r)->Bytes u' bb off (r++rest)->Ar u u' (fun i=>i=sb∨pv.ownBlock=lp i)->x' 40=gf (decide (Vm (l++r)=0))->(pv.ownBlock=lp g∨u.heap.size<=g) ->
   EV ly main J Stop (G (b.at (C9 (om (lp ⟨sb,1,od⟩)) (cf (Lq bb off r.length bcap) rest.length (bcap - r.length)) ch (rl tz r.length) x') (.code Xe :: .inBlock 1 :: k)) z) u') :
  EV ly main J Stop (G (b.at (C9 (om (lp ⟨sb,1,od⟩)) (cf (lp ⟨bb,off,od⟩) (r++rest).length bcap) ch n6 x) (.code Xg :: k)) z) u:=by
 have hrl:(r++rest).length=r.length+rest.length:=aH
 have hll:(l++r).length=l.length+r.length:=aH
 refine EV.seqN hbf hbk (Aa1 (lp ⟨bb,off,od⟩) _ bcap Ab _ ch n6 x) ?_
 rintro _ a1 u1 ⟨rfl,⟨x1,rfl⟩,rfl⟩
 refine⟨rfl,EV.ctl rfl rfl (fun _=>stepG_block) ?_⟩
 refine EV.seqN hbf hbk (Aa2 (lp ⟨bb,off,od⟩) _ bcap r.length Ab _ ch n6 x1 (Dm (Zv C Ab) fun y w' h=>⟨h.1.trans (by rw [hm]),h.2⟩)) ?_
 rintro _ a2 u2 ⟨rfl,⟨x2,rfl⟩,K2,W2⟩
 refine⟨rfl,?_⟩
 have C2:=C.kx K2 W2
 refine EV.seqN hbf hbk (Aa3 sb bb off bcap r.length n t v e o pv l r rest C2 (Y4 hb K2 fun h=>h) rfl h0 Ab Ab ch x2) ?_
 rintro _ a3 u3 ⟨rfl,⟨x3,rfl⟩,K3,B3,g,c,C3,G3⟩
 refine⟨rfl,?_⟩
 refine EV.seqN hbf hbk (Aa4 bb off (r++rest).length bcap r.length Ab Ea _ ch x3) ?_
 rintro _ a4 u4 ⟨rfl,⟨x4,rfl⟩,rfl⟩
 refine⟨rfl,?_⟩
 refine EV.seqN hbf hbk (Aa5 _ _ hU _ ch _ x4 (TN C3 h4)) ?_
 rintro _ a5 u5 ⟨rfl,⟨x5,rfl⟩,K5,W5⟩
 refine⟨rfl,?_⟩
 have C5:=C3.kx K5 W5
 refine EV.seqN hbf hbk (Aa6 _ _ _ ch _ x5 (Zv C5 hl)) ?_
 rintro _ a6 u6 ⟨rfl,⟨x6,rfl,h40⟩,K6,W6⟩
 refine⟨rfl,?_⟩
 have hsub:(r++rest).length - r.length=rest.length:=Ab
 rw [hsub]
 have K36:Ar u4 u6 (fun _=>False):=K5.trans K6
 exact Bo x6 u6 g c (C5.kx K6 W6) (Y4 B3 K36 fun h=>h) (((K2.mono fun _ h=>h.elim).trans K3).trans (K36.mono fun _ h=>h.elim)) h40 (G3.imp id fun h=>aE K2.size h)
end
section
variable {main:Bool} {J:Loc->Prop} {Bs:Nat->Prop} {Stop:gq->qq->Prop} {u u':qq} {sb bb:Nat} {n t v e o pv:tj} {l:List UInt8}
variable {ops:Array gz} {i:Nat} {rest:List Nat} {oi:gz} {a:Act} {w:qq} {b:qg} {k:List Item} {z:List qg}
def Code.opsOf:s9->Array gz|.region _ ops _=>ops|_=>#[]
noncomputable def IZ:Array gz:=Code.opsOf SO
noncomputable def Na(b:qg)(k:List Item)(z:List qg)(sb:Nat)(bv ch m:tj)(x:Nat->tj):gq:=
 G (b.at (C9 (om (lp ⟨sb,1,od⟩)) bv ch m x) (.inRegion IZ [3] :: .code SP :: .inBlock 1 :: .inLoop Xg :: .inBlock 0 :: k)) z
theorem Ab0(C:Lf J Bs u sb bb n t v e o pv l)(h4:4<l.length)(hl:l.length<=5000)(bv ch m:tj)(x:Nat->tj)(h40:x 40=gf s7)(hbf:b.fn=49)(hbk:b.kind=.normal)(E5:∀x' u',u'.heap[u.heap.size]? = lp (ye (A0 (l.drop 4)).toArray 5)->Ar u u' (fun _=>False)->VW J Bs u'->x' 41=ch->x' 43=cf (lp ⟨u.heap.size,0,od⟩) (l.length - 4) (l.length - 4)->∀d,Stop (Na b k z sb bv ch m x') (u'.at d)) :
  EV ly main J Stop (G (b.at (C9 (om (lp ⟨sb,1,od⟩)) bv ch m x) (.code Xe :: .inBlock 1 :: .inLoop Xg :: .inBlock 0 :: k)) z) u:=by
 refine EV.ctl rfl rfl (fun _=>stepG_cond (t:=s7) h40) ?_
 simp only [bC]
 refine EV.ctl rfl rfl (fun _=>mr) ?_
 refine EV.ctl rfl rfl (fun _=>zh (ops:=IZ)) ?_
 have e7:qw IZ.size = [0,1,2,3]:=Ac
 rw [e7]
 simp only [IZ,SO,Y9,GZ,G5,Hk,Fv,Code.core,Code.one,Code.two,Code.yes,Code.opsOf,ft,C9]
 refine EV.opP (x:=ch) rfl Ac hbk (fun w=>Ac) (fun w=>Ac) ?_
 walk_nrm
 refine EV.opP (x:=om (lp ⟨sb,1,od⟩)) rfl Ac hbk (fun w=>Ac) (fun w=>Ac) ?_
 walk_nrm
 refine EV.opC (Aaw C h4 hl) rfl Ac hbk rfl (by walk_nrm) ?_
 rintro y u1 ⟨rfl,hr,K1,W1⟩
 walk_nrm
 exact EV.stop (E5 (fun i=>([yj,yj,yj,yj,yj,yj,yj,x 7,x 8,x 9,x 10,x 11,x 12,x 13,x 14,x 15,x 16,x 17,x 18,x 19,x 20,x 21,x 22,x 23,x 24,x 25,x 26,x 27,x 28,x 29,x 30,x 31,x 32,x 33,x 34,x 35,x 36,x 37,x 38,x 39,x 40,ch,om (lp ⟨sb,1,od⟩),cf (lp ⟨u.heap.size,0,od⟩) (l.length - 4) (l.length - 4),x 44,x 45,x 46,x 47,x 48,x 49,x 50,x 51]:List tj).getD i yj) u1 hr K1 W1 rfl rfl)
theorem IP{u1 u2:qq}{g:Nat}(h1:Ar u u1 (fun i=>i=sb∨pv.ownBlock=lp i))(h2:Ar u1 u2 (fun i=>i=sb∨i=g))(hg:pv.ownBlock=lp g∨u.heap.size<=g):Ar u u2 (fun i=>i=sb∨pv.ownBlock=lp i):=by
 refine⟨h2.os.trans h1.os,h2.tape.trans h1.tape,h2.output.trans h1.output,aE h1.size h2.size,fun i hi hx=>?_⟩
 refine(h2.block i (aB hi h1.size) fun h=>?_).trans (h1.block i hi hx)
 rcases h with h|h
 ·exact hx (.inl h)
 ·subst h
  rcases hg with hg|hg
  ·exact hx (.inr hg)
  ·omega
theorem MV(off bcap:Nat)(hd body:List UInt8)(C:Lf J Bs u sb bb n t v e o pv [])(hb:Bytes u bb off (hd++body))(hh:hd.length=4)(hU:uns hd=body.length)(h1:0<body.length)(h2:body.length<=1000)(Ea:(hd++body).length<=bcap)(ch n6:tj)(x:Nat->tj)(hbf:b.fn=49)(hbk:b.kind=.normal)(E5:∀x' u' g c q aa,Lf J Bs u' sb bb n t v e o (cf (lp ⟨g,0,od⟩) (hd++body).length c) (hd++body)->u'.heap[q]? = lp (ye (A0 body).toArray 5)->Ar u u' (fun i=>i=sb∨pv.ownBlock=lp i)->u.heap.size<=q->q≠g->(pv.ownBlock=lp g∨u.heap.size<=g)->x' 41=ch->x' 43=cf (lp ⟨q,0,od⟩) body.length body.length ->
   ∀d,Stop (Na b k z sb (cf aa 0 (bcap - 4 - body.length)) ch (rl tz body.length) x') (u'.at d)) :
  EV ly main J Stop (G (b.at (C9 (om (lp ⟨sb,1,od⟩)) (cf (lp ⟨bb,off,od⟩) (hd++body).length bcap) ch n6 x) (.code Fv :: k)) z) u:=by
 have hlen:(hd++body).length=4+body.length:=by rw [aH,hh]
 rw [XJ]
 refine EV.ctl rfl rfl (fun _=>stepG_block) (EV.ctl rfl rfl (fun _=>stepG_loop) ?_)
 have t4:([]++hd:List UInt8).take 4=hd:=by rw [aP,←hh,List.take_length]
 refine PQ off bcap hd body C hb (by unfold Vm;rw [aQ Ae,hh];rfl) Ab (by simp [hh]) (by simp [hh]) (by rw [t4,hU];exact h2) Ab ch n6 x hbf hbk ?_
 intro x1 u1 g1 c1 C1 B1 K1 h40 G1
 rw [aP] at C1 h40
 have m1:Vm hd=body.length:=by unfold Vm;rw [aO Ab,←hh,List.take_length,hU];omega
 rw [m1] at h40
 refine EV.ctl rfl rfl (fun _=>stepG_cond (t:=vp) (h40.trans (by congr 1;exact decide_eq_false Ab))) ?_
 simp only [bQ,aV]
 refine EV.ctl rfl rfl (fun _=>stepG_skip) (EV.ctl rfl rfl (fun _=>rq) (EV.ctl rfl rfl (fun _=>stepG_inLoop) ?_))
 have hba:Lq bb off hd.length bcap=lp ⟨bb,off+4,od⟩:=by unfold Lq;rw [aO Ab,hh]
 rw [hba]
 have B1':Bytes u1 bb (off+4) (body ++ []):=fun i hi=>by
  rw [bU] at hi
  have h5:=B1 (4+i) Ab
  rw [show off+(4+i)=off+4+i by omega] at h5
  rw [h5]
  simp only [bU]
  rw [List.getElem_append_right Ab]
  simp [hh]
 have e0:body.length=(body ++ []).length:=Ae
 rw [e0]
 have t5:(hd++body).take 4=hd:=by rw [←hh,List.take_left]
 refine PQ (off+4) (bcap - hd.length) body [] C1 B1' m1 h1 Ab Ab (by rw [t5,hU];exact h2) Ag ch _ x1 hbf hbk ?_
 intro x2 u2 g2 c2 C2 B2 K2 h40' G2
 have m2:Vm (hd++body)=0:=by unfold Vm;rw [aO Ab,t5,hU,hlen];omega
 rw [m2] at h40'
 refine Ab0 C2 Ab Ab _ ch _ x2 h40' hbf hbk ?_
 intro x3 u3 hr K3 W3 h41 h43
 have d4:(hd++body).drop 4=body:=by rw [←hh,List.drop_left]
 rw [d4] at hr
 have K02:Ar u u2 (fun i=>i=sb∨pv.ownBlock=lp i):=IP K1 (K2.mono fun i h=>h.imp id fun h=>by simpa [qb,eq_comm] using h) G1
 have g2l:g2<u2.heap.size:=(C2.ap g2 rfl).1
 have G2':pv.ownBlock=lp g2∨u.heap.size<=g2:=by
  rcases G2 with h|h
  ·obtain rfl:g1=g2:=by simpa [qb] using h
   exact G1
  ·exact .inr (aE K1.size h)
 have s4:(hd++body).length - 4=body.length:=Ab
 rw [s4] at h43
 have hs:=E5 x3 u3 g2 c2 u2.heap.size (Lq bb (off+4) body.length (bcap - hd.length)) (C2.kx K3 W3) hr (K02.trans (K3.mono fun _ h=>h.elim)) K02.size Ab G2' h41 h43
 rw [hh]
 rw [hh] at hs
 exact hs
end
@[reducible] noncomputable def M5(far:Nat->Obj->Prop)(Shun:Loc->Prop)(k Wg Ch sb Bx:Nat)(Ro:Addr->Prop)(Facts FB:qq->Prop)(PostA:gq->qq->Prop):VC:=
 {P:=ly,Shun,k,Wg,Ch,ty:=115,Jc:=fun a=>a=⟨sb,1,od⟩,Ro,Facts,FB,PostA,Bx:=fun w=>w.cell? ⟨Bx,0,od⟩=lp (om (lp ⟨sb,1,od⟩))/\Bx<w.heap.size,far }
structure TV(Wg sb Bx:Nat)(pv:tj)(w:qq):Prop where
 cell:w.cell? ⟨sb,1,od⟩=lp pv
 fz:w.frozen? ⟨sb,1,od⟩=vp
 lt:sb<w.heap.size
 wg:Dq 115 Wg w
 bx:w.cell? ⟨Bx,0,od⟩=lp (om (lp ⟨sb,1,od⟩))
 bl:Bx<w.heap.size
 bn:Bx≠sb
noncomputable def bot:qg:={ (default:qg) with fn:=prog.funcs.size,defers:=[],mode:=.panicking [goexitEntry] }
noncomputable def Ti:s9:=f47.body.getD .skip
section
variable {far:Nat->Obj->Prop} {Shun:Loc->Prop} {k Wg Ch sb Bx:Nat} {Ro:Addr->Prop} {Facts FB:qq->Prop} {PostA:gq->qq->Prop} {pv:tj} {w w':qq}
theorem TV.rely(hx:Ro ⟨Bx,0,od⟩)(h:TV Wg sb Bx pv w)(r:Wz (M5 far Shun k Wg Ch sb Bx Ro Facts FB PostA) w w'):TV Wg sb Bx pv w':=
 ⟨(r.cell _ (.inl rfl) h.lt).trans h.cell,(r.fz _ rfl h.lt).trans h.fz,aB h.lt r.size,r.wg h.wg,(r.cell _ (.inr hx) h.bl).trans h.bx,aB h.bl r.size,h.bn⟩
theorem TV.set(Cu:Wg≠sb)(h:TV Wg sb Bx pv w)(pv':tj):TV Wg sb Bx pv' (w.setCell ⟨sb,1,od⟩ pv'):=by
 refine⟨World.cell?_setCell_same _ _ _ h.cell,(World.frozen?_setCell _ _ _ _).trans h.fz,by rw [size_setCell];exact h.lt,?_,(World.cell?_setCell_far _ _ _ _ (bW h.bn)).trans h.bx,by rw [size_setCell];exact h.bl,h.bn⟩
 obtain⟨st,sm,x⟩:=h.wg
 refine⟨st,sm,?_⟩
 unfold D3 at *
 rw [G7 _ _ Cu]
 exact x
theorem EO(C:VC):Terms (Wz C) (LF C):=⟨fun _ _ _ h k=>h.trans k,fun w=>⟨⟨w.drawn,Ct.refl _⟩,fun _ _ h _=>h,Ae⟩⟩
theorem GF(C:Pu):Terms (RB C) Go.Pair.D0:=⟨fun _ _ _ h k=>h.trans k,fun w=>⟨rfl,rfl⟩⟩
theorem MY(h:TV Wg sb Bx pv w){es:Array Event}(he:∀e∈es,e=⟨.cell ⟨sb,1,od⟩,vp,vp⟩):LF (M5 far Shun k Wg Ch sb Bx Ro Facts FB PostA) w w es:=
 ⟨⟨w.drawn,Ct.refl _⟩,fun _ _ h _=>h,fun e hx=>.inr ⟨_,_,he e hx,rfl,h.lt⟩⟩
theorem SS(h:TV Wg sb Bx pv w)(x:tj){es:Array Event}(he:∀e∈es,e=⟨.cell ⟨sb,1,od⟩,s7,vp⟩):LF (M5 far Shun k Wg Ch sb Bx Ro Facts FB PostA) w (w.setCell ⟨sb,1,od⟩ x) es:=
 ⟨⟨w.drawn,(Ct.refl w).setJ ⟨_,rfl,rfl⟩ rfl x⟩,Kq,fun e hx=>.inr ⟨_,_,he e hx,rfl,by rw [size_setCell];exact h.lt⟩⟩
theorem CM(w:qq)(h0:w.cell? ⟨sb,1,od⟩=lp pv)(hfz:w.frozen? ⟨sb,1,od⟩=vp)(y:tj)(hy:y.oneCell'=s7):(store ⟨sb,1,od⟩ y).events ly w #[]=#[⟨.cell ⟨sb,1,od⟩,s7,vp⟩]:=by
 rw [s5 ly w #[] ⟨sb,1,od⟩ y _ hy]
 simp [h0,hfz]
theorem FY(T:Array tj):QuitsD ly 2 0 (G { (baseD 47).at ⟨T,[]⟩ [] with mode:=.returning } [bot]):=by
 refine QuitsD.ctl (g':=G bot []) rfl (fun w=>?_) ?_
 ·simp [G,stepG,unwind,doReturn,results,Frame.at,baseD,bot,func47,f47,seen,GStep.after,goexitEntry]
 refine QuitsD.ctl (g':={ G bot [] with status:=.finished }) rfl (fun w=>?_) ⟨rfl,rfl⟩
 simp [G,stepG,unwind,bot,goexitEntry,Frame.catches]
 rfl
set_option maxRecDepth 100000 in
theorem ZM(O:(M5 far Shun k Wg Ch sb Bx Ro Facts FB PostA).Ok)(T:Array tj)(hF:TV Wg sb Bx pv w)(hfb:FB w) :
  BCl (M5 far Shun k Wg Ch sb Bx Ro Facts FB PostA) (G { (baseD 47).at ⟨T,[Mi 105 0 Ch,dcall 48 #[om (lp ⟨Wg,0,od⟩)]]⟩ [] with mode:=.returning } [bot]) w:=by
 refine⟨rfl,rfl,hfb,fun s r tm hch=>⟨_,Ke rfl Ac hch,rfl,103+1,?_⟩⟩
 have hG:Dq 115 Wg (w.shut Ch s r tm):=(Nv (C:=(M5 far Shun k Wg Ch sb Bx Ro Facts FB PostA).c0) (sent:=S1) (w:=w) O.cfg0 (o:=.chan 0 #[] s7 s r tm)).2.wg hF.wg
 refine Av (GF _) rfl (fun w=>stepG_unwind_enter (f:=48) rfl func48 Ac rfl) ?_
 exact VP (C:=(M5 far Shun k Wg Ch sb Bx Ro Facts FB PostA).c0) O.cfg0 Tryz.wgLib rfl (c:={ (baseD 47).at ⟨T,[]⟩ [] with mode:=.returning }) (cs:=[bot]) (qt:=2) rfl (FY T) _ ⟨hG,trivial⟩
set_option maxRecDepth 100000 in
theorem Aa7(hx:Ro ⟨Bx,0,od⟩)(Cu:Wg≠sb)(g n c:Nat)(hn:n<=c)(b ch nn:tj):∃m,∀w x,TV Wg sb Bx (cf (lp ⟨g,0,od⟩) n c) w ->
  SP.wpC ly vp (Wz (M5 far Shun k Wg Ch sb Bx Ro Facts FB PostA)) (LF (M5 far Shun k Wg Ch sb Bx Ro Facts FB PostA)) 49 m (fun e a' w'=>e=.normal/\(∃x',a'=C9 (om (lp ⟨sb,1,od⟩)) b ch nn x')/\TV Wg sb Bx (cf (lp ⟨g,0,od⟩) 0 c) w')
   (C9 (om (lp ⟨sb,1,od⟩)) b ch nn x) w:=by
 have T:=EO (M5 far Shun k Wg Ch sb Bx Ro Facts FB PostA)
 co_apply Exists.intro
 intro w x hF
 have hev:=fun w es=>Rq w es (lp ⟨g,0,od⟩) n c 0 Ab Ab
 simp only [SP,Y9,GZ,Code.yes,G5,Hk,Fv,Code.core,Code.one,Code.two,ft,C9]
 co_reg T
 co_op (TV.rely hx) hF (co_quiet T)
 co_op (TV.rely hx) hF (co_quiet T)
 co_op (TV.rely hx) hF (co_quiet T)
 co_op (TV.rely hx) hF (co_quiet T)
 co_opw (TV.rely hx) hF (have hc:=hF.cell) (refine MY hF ?_;co_evs (rfl))
 clear hc
 co_opw (TV.rely hx) hF (skip) (co_still T)
 co_op (TV.rely hx) hF (co_quiet T)
 co_op (TV.rely hx) hF (co_quiet T)
 co_opw (TV.rely hx) hF (have hc:=hF.cell;have hfz:=hF.fz;have hse:=CM _ hc hfz (cf (lp ⟨g,0,od⟩) 0 c) rfl) (refine SS hF _ ?_;co_evs (rfl))
 co_apply opsC_nil T
 exact⟨rfl,Is _ rfl,hF.set Cu _⟩
set_option maxRecDepth 100000 in
theorem Aa0(hx:Ro ⟨Bx,0,od⟩)(ba:Option Addr)(bcap:Nat)(cc ch n:tj):∃m,∀w x,TV Wg sb Bx pv w ->
  MU.wpC ly vp (Wz (M5 far Shun k Wg Ch sb Bx Ro Facts FB PostA)) (LF (M5 far Shun k Wg Ch sb Bx Ro Facts FB PostA)) 49 m (fun e a' w'=>e=.exit 0/\(∃x',a'=C9 cc (cf ba 0 bcap) ch n x')/\TV Wg sb Bx pv w')
   (C9 cc (cf ba 0 bcap) ch n x) w:=by
 have T:=EO (M5 far Shun k Wg Ch sb Bx Ro Facts FB PostA)
 co_apply Exists.intro
 intro w x hF
 simp only [MU,Hk,Fv,Code.core,Code.one,ft,C9]
 co_apply wpC_seq T
 co_reg T
 co_op (TV.rely hx) hF (co_quiet T)
 co_op (TV.rely hx) hF (co_quiet T)
 co_op (TV.rely hx) hF (co_quiet T)
 co_apply opsC_nil T
 co_then
 co_apply wpC_cond T (t:=vp) rfl
 simp only [bQ,aV]
 co_apply wpC_exit T
 exact⟨rfl,Is _ rfl,hF⟩
noncomputable def OT:Array gz:=match Ti with|.seq _ (.seq _ (.region _ ops _))=>ops|_=>#[]
noncomputable def Zm(T:Array tj)(Wg Ch:Nat):qg:=(baseD 47).at ⟨T,[Mi 105 0 Ch,dcall 48 #[om (lp ⟨Wg,0,od⟩)]]⟩ [.inRegion OT [3]]
theorem SB(O:(M5 far Shun k Wg Ch sb Bx Ro Facts FB PostA).Ok)(hx:Ro ⟨Bx,0,od⟩)(Cu:Wg≠sb)(g n c:Nat)(hn:n<=c)(hfb:∀w,TV Wg sb Bx (cf (lp ⟨g,0,od⟩) 0 c) w->FB w)(T:Array tj)(aa:Option Addr)(bc:Nat)(ch mm:tj)(x:Nat->tj)(hF:TV Wg sb Bx (cf (lp ⟨g,0,od⟩) n c) w) :
  ∃m,Goes ly vp (Wz (M5 far Shun k Wg Ch sb Bx Ro Facts FB PostA)) (LF (M5 far Shun k Wg Ch sb Bx Ro Facts FB PostA)) (BCl (M5 far Shun k Wg Ch sb Bx Ro Facts FB PostA)) m (Conc.served (core (Na (base 49) [] [Zm T Wg Ch,bot] sb (cf aa 0 bc) ch mm x)) yj) w:=by
 have T':=EO (M5 far Shun k Wg Ch sb Bx Ro Facts FB PostA)
 obtain⟨m8,h8⟩:=Aa7 (Shun:=Shun) (k:=k) (Wg:=Wg) (Ch:=Ch) (sb:=sb) (Ro:=Ro) (Facts:=Facts) (FB:=FB) (PostA:=PostA) (Bx:=Bx) hx Cu g n c hn (cf aa 0 bc) ch mm
 obtain⟨m0,h0⟩:=Aa0 (Shun:=Shun) (k:=k) (Wg:=Wg) (Ch:=Ch) (sb:=sb) (Ro:=Ro) (Facts:=Facts) (FB:=FB) (PostA:=PostA) (pv:=cf (lp ⟨g,0,od⟩) 0 c) (Bx:=Bx) hx aa bc (om (lp ⟨sb,1,od⟩)) ch mm
 refine⟨0+1+1+1+1+m0+1+1+1+m8+1,?_⟩
 unfold Na
 rw [Oi (o:=IZ[3]' Ad) rfl]
 refine Av T' rfl (fun w=>we) ?_
 refine wpC_goes (b:=base 49) (h8 w x hF) rfl Ad fun e a' w1 q=>?_
 obtain⟨rfl,⟨x1,rfl⟩,hF1⟩:=q
 refine Av T' rfl (fun w=>rq) ?_
 refine Av T' rfl (fun w=>stepG_inLoop) ?_
 refine Av T' rfl (fun w=>mr) ?_
 refine wpC_goes (b:=base 49) (h0 w1 x1 hF1) rfl Ad fun e a' w2 q=>?_
 obtain⟨rfl,⟨x2,rfl⟩,hF2⟩:=q
 refine⟨[],rfl,?_⟩
 refine Av T' rfl (fun w=>stepG_end) ?_
 refine Av T' rfl (fun w=>stepG_leave (v:=fh #[]) rfl rfl func49 (results_none Ac _ _ _) (events_results_none Ac _ _)) ?_
 unfold Zm
 rw [Frame.finish_at,show OT[3]? = lp (OT[3]' Ad) from rfl]
 refine Av T' rfl (fun w=>we) ?_
 refine Av T' rfl (fun w=>stepG_end) ?_
 intro w₁ hR
 exact ZM O _ (hF2.rely hx hR) (hfb _ (hF2.rely hx hR))
end
def call47(W B Cv Bv:Nat):Deferred:={ target:=.fn (.func 47) #[om (lp ⟨W,0,od⟩),om (lp ⟨B,0,od⟩),om (lp ⟨Cv,0,od⟩),om (lp ⟨Bv,0,od⟩)],args:=#[] }
theorem MD(W B Cv Bv:Nat)(w:qq):stepG ly vp (born ly (call47 W B Cv Bv)) w =
  .go (G ((baseD 47).at ⟨#[om (lp ⟨W,0,od⟩),om (lp ⟨B,0,od⟩),om (lp ⟨Cv,0,od⟩),om (lp ⟨Bv,0,od⟩),yj,yj,yj,yj,yj],[]⟩ [.code Ti]) [bot]) w #[]:=by
 simp [born,call47,stepG,unwind,callDeferred,invoke,callFunc,func47,f47,seen,GStep.after,G,Frame.enter,Frame.at,baseD,bot,Ti]
structure IV(B Cv Bv Ch sb:Nat)(bv:tj)(w:qq):Prop where
 b:w.heap[B]? = lp (ye #[.chan (lp Ch)] 105)
 c:w.heap[Cv]? = lp (ye #[om (lp ⟨sb,1,od⟩)] 104)
 v:w.heap[Bv]? = lp (ye #[bv] 35)
theorem IV.rely{B Cv Bv Ch sb:Nat}{bv:tj}{w w':qq}(h:IV B Cv Bv Ch sb bv w)(r:∃d,w'=w.at d):IV B Cv Bv Ch sb bv w':=by
 obtain⟨d,rfl⟩:=r
 exact⟨h.b,h.c,h.v⟩
theorem US(C:VC):Terms (fun w w'=>∃d,w'=World.at w d) (VN C):=⟨fun _ _ _ ⟨d,h⟩ ⟨d',h'⟩=>⟨d',by rw [h',h];rfl⟩,fun w=>⟨rfl,Ae⟩⟩
noncomputable def T47(W B Cv Bv Ch sb:Nat)(bv:tj):Array tj:=#[om (lp ⟨W,0,od⟩),om (lp ⟨B,0,od⟩),om (lp ⟨Cv,0,od⟩),om (lp ⟨Bv,0,od⟩),.chan (lp Ch),om (lp ⟨sb,1,od⟩),bv,.chan (lp Ch),yj]
set_option maxRecDepth 100000 in
theorem TK{C:VC}{Stop:gq->qq->Prop}{Wg B Cv Bv Ch sb:Nat}{ba:Option Addr}{bl bc:Nat}{w:qq}(hro:∀i,i=B∨i=Cv∨i=Bv->C.Ro ⟨i,0,od⟩)(hF:IV B Cv Bv Ch sb (cf ba bl bc) w)(E5:∀d,Fw ly vp C.J1 Stop (G ((base 49).at (C9 (om (lp ⟨sb,1,od⟩)) (cf ba bl bc) (.chan (lp Ch)) yj (fun _=>yj)) [.code Fv]) [Zm (T47 Wg B Cv Bv Ch sb (cf ba bl bc)) Wg Ch,bot]) ((Cf w).at d)) :
  Goes ly vp (fun w w'=>∃d,w'=World.at w d) (VN C) (fun g w=>Fw ly vp C.J1 Stop g (Cf w)) 15 (born ly (call47 Wg B Cv Bv)) w:=by
 have T:=US C
 have hat:∃d,w=w.at d:=⟨w.drawn,rfl⟩
 refine Av T rfl (fun w=>MD _ _ _ _ w) ?_
 simp only [Ti,f47,aN]
 refine Iya ?_
 refine Vgp ?_
 refine Av T rfl (fun w=>stepG_defer rfl Ac Ad rfl) ?_
 walk_nrm
 refine Uiu ?_
 refine Iya ?_
 refine Vgp ?_
 refine Bj rfl Ac Ad fun w₁ hR K' hK=>?_
 replace hat:=T.trans _ _ _ hat hR
 clear hR
 have hG:=hF.rely hat
 have hc:=Kl (w:=w₁) 0 hG.b
 go_simp
 refine hK _ _ ⟨⟨rfl,?_⟩,?_⟩
 ·co_evs (exact⟨_,rfl,hro _ (.inl rfl),ltOf hG.b⟩)
 clear hK K' hc
 try walk_nrm
 refine Av T rfl (fun w=>Lb (c:=Ch) rfl Ac Ad rfl rfl) ?_
 walk_nrm
 refine Uiu ?_
 refine Vgp ?_
 clear hG
 refine Bj rfl Ac Ad fun w₁ hR K' hK=>?_
 replace hat:=T.trans _ _ _ hat hR
 clear hR
 have hG:=hF.rely hat
 have hc:=Kl (w:=w₁) 0 hG.c
 go_simp
 refine hK _ _ ⟨⟨rfl,?_⟩,?_⟩
 ·co_evs (exact⟨_,rfl,hro _ (.inr (.inl rfl)),ltOf hG.c⟩)
 clear hK K' hc hG
 try walk_nrm
 refine Bj rfl Ac Ad fun w₁ hR K' hK=>?_
 replace hat:=T.trans _ _ _ hat hR
 clear hR
 have hG:=hF.rely hat
 have hc:=Kl (w:=w₁) 0 hG.v
 go_simp
 refine hK _ _ ⟨⟨rfl,?_⟩,?_⟩
 ·co_evs (exact⟨_,rfl,hro _ (.inr (.inr rfl)),ltOf hG.v⟩)
 clear hK K' hc hG
 try walk_nrm
 refine Bj rfl Ac Ad fun w₁ hR K' hK=>?_
 replace hat:=T.trans _ _ _ hat hR
 clear hR
 have hG:=hF.rely hat
 have hc:=Kl (w:=w₁) 0 hG.b
 go_simp
 refine hK _ _ ⟨⟨rfl,?_⟩,?_⟩
 ·co_evs (exact⟨_,rfl,hro _ (.inl rfl),ltOf hG.b⟩)
 clear hK K' hc hG
 try walk_nrm
 refine Goes.step rfl fun w₁ hR=>goes_call rfl Ac Ad rfl func49 Ac rfl ⟨T.idle _,?_⟩
 replace hat:=T.trans _ _ _ hat hR
 clear hR
 walk_nrm
 simp only [ntmps49,dG,bY,dR,aU,aK,aI,Nat.reduceAdd,Nat.reduceSub,bT,bZ,cG,cB,aP,bK]
 intro w₂ hR
 obtain⟨d,rfl⟩:=T.trans _ _ _ hat hR
 exact E5 d
noncomputable def Et:s9:=f34.body.getD .skip
noncomputable def Ic:s9:=Code.two (Code.two (Code.two (Code.two (Code.two (Code.two Et)))))
noncomputable def Uj:s9:=Code.core (Code.core (Code.two (Code.one Ic)))
noncomputable def Rv:s9:=Code.two Uj
noncomputable def Ot:Array gz:=Code.opsOf (Code.one Uj)
noncomputable def Abo:Array gz:=Code.opsOf (Code.one (Code.core (Code.two Rv)))
noncomputable def OS:Array gz:=Code.opsOf (Code.two (Code.core (Code.two Rv)))
noncomputable def LG(y:Nat->tj):Act:={ tmps:=#[y 0,y 1,y 2,y 3,y 4,y 5,y 6,y 7,y 8,y 9,y 10,y 11,y 12,y 13,y 14,y 15,y 16,y 17,y 18,y 19,y 20,y 21,y 22,y 23,y 24,y 25,y 26,y 27,y 28,y 29],defers:=[] }
def I8(ob vb:Nat):tj:=.func (.func 35) #[] #[om (lp ⟨ob,0,od⟩),om (lp ⟨vb,0,od⟩)]
noncomputable def He(b:qg)(kk:List Item)(z:List qg)(y:Nat->tj):gq:=G (b.at (LG y) (.inRegion Ot [0,1] :: .code Rv :: .inLoop (.seq (.region 8 Ot vp) Rv) :: .inBlock 0 :: kk)) z
section
variable {J:Loc->Prop} {Stop:gq->qq->Prop} {u:qq} {b:qg} {kk:List Item} {z:List qg}
theorem Abw(y:Nat->tj)(ob vb:Nat)(x:tj)(hy:y 2=I8 ob vb)(hbk:b.kind=.normal){Cd:qq->Prop}(HC:Bz ly s7 J Stop 35 #[x,om (lp ⟨ob,0,od⟩),om (lp ⟨vb,0,od⟩)] u fun r u'=>r=fh #[]/\Cd u')(E5:∀y' u',Cd u'->(∀j,j<9∨j=17->y' j=y j)->∀d,Stop (He b kk z y') (u'.at d)) :
  EV ly s7 J Stop (Conc.served (core (He b kk z y)) (fh #[x,gf s7])) u:=by
 unfold He
 rw [Oi (o:=Ot[0]' Ad) rfl]
 refine EV.opP (x:=gf s7) rfl Ac hbk (fun w=>Ac) (fun w=>Ac) ?_
 refine EV.ctl rfl rfl (fun _=>we) ?_
 refine EV.ctl rfl rfl (fun _=>mr) ?_
 refine EV.ctl rfl rfl (fun _=>stepG_cond (t:=s7) Ac) ?_
 simp only [bC]
 refine EV.ctl rfl rfl (fun _=>stepG_skip) ?_
 refine EV.ctl rfl rfl (fun _=>stepG_block) ?_
 refine EV.ctl rfl rfl (fun _=>mr) ?_
 refine EV.ctl rfl rfl (fun _=>zh (ops:=Abo)) ?_
 rw [show qw Abo.size = [0,1] from rfl]
 iterate 2(refine EV.opP (x:=x) rfl Ac hbk (fun w=>Ac) (fun w=>Ac) ?_)
 refine EV.ctl rfl rfl (fun _=>we) ?_
 refine EV.ctl rfl rfl (fun _=>zh (ops:=OS)) ?_
 rw [show qw OS.size = [0,1,2] from rfl]
 refine EV.opP (x:=I8 ob vb) rfl Ac hbk (fun w=>by rw [←hy];rfl) (fun w=>Ac) ?_
 refine EV.opP (x:=x) rfl Ac hbk (fun w=>Ac) (fun w=>Ac) ?_
 obtain⟨o,ho,Bt,hg,hd⟩:∃o,OS[2]? = lp o/\o.op=.call { callee:=.value (.tmp 21),args:=#[.tmp 22],argTypes:=#[35] }/\o.guard=od/\o.dst=lp 23:=⟨_,rfl,rfl,rfl,rfl⟩
 refine(?_:EV ly s7 J Stop (G (b.at { tmps:=#[y 0,y 1,y 2,y 3,y 4,y 5,y 6,y 7,y 8,x,y 10,y 11,y 12,y 13,y 14,y 15,y 16,y 17,fh #[x,gf s7],gf s7,x,I8 ob vb,x,y 23,y 24,y 25,y 26,y 27,y 28,y 29],defers:=[] } _) z) u)
 refine EV.opE (f:=35) (args:=#[x,om (lp ⟨ob,0,od⟩),om (lp ⟨vb,0,od⟩)]) ho (by simp [br,hg]) hbk (fun w=>by unfold execOp;simp only [Bt,I8];go_simp) (fun w=>by unfold execOp;simp only [Bt,I8];go_simp;simp [callFunc,func35,f35]) HC ?_
 rintro r u1 ⟨rfl,hP⟩
 rw [hd]
 refine EV.ctl rfl rfl (fun _=>we) ?_
 refine EV.ctl rfl rfl (fun _=>rq) ?_
 refine EV.ctl rfl rfl (fun _=>stepG_inLoop) ?_
 refine EV.ctl rfl rfl (fun _=>mr) ?_
 refine EV.ctl rfl rfl (fun _=>zh (ops:=Ot)) ?_
 rw [show qw Ot.size = [0,1] from rfl]
 refine EV.stop (E5 (fun i=>([y 0,y 1,y 2,y 3,y 4,y 5,y 6,y 7,y 8,x,y 10,y 11,y 12,y 13,y 14,y 15,y 16,y 17,fh #[x,gf s7],gf s7,x,I8 ob vb,x,fh #[],y 24,y 25,y 26,y 27,y 28,y 29]:List tj).getD i yj) u1 hP ?_)
 intro j hj
 have h30:j<18:=Ab
 match j,h30 with
 | 0,_|1,_|2,_|3,_|4,_|5,_|6,_|7,_|8,_|10,_|11,_|12,_|13,_|14,_|15,_|16,_|17,_=>rfl
 | 9,_=>omega
end
end Go.Proofs.YtjoblhlkfmeckaaGreatDoor
