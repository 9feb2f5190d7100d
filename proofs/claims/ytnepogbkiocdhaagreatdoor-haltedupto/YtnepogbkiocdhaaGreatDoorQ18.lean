import Derived.Test.YtnepogbkiocdhaaGreatDoorQ17
open Go.Proofs.YtnepogbkiocdhaaGreatDoor
open Array renaming size->iZ
set_option maxHeartbeats 8000000
set_option maxRecDepth 8000
set_option linter.all false
set_option maxRecDepth 8000
open Option renaming some->je,none->zt
open Bool renaming true->jz,false->vy
open Go renaming Value->p8,World->qi,undef->re,TypeId->uy,Addr->uw,bounds_i64->mm,Value->S
open List renaming replicate->zn,take->qgl,length->iY
open Go.World renaming cell?_of_block->rp
open Go.Value.slice renaming injEq->jp9
open Go.Frame renaming enter->ur
open Go.Value renaming int->wy,string->zx,pointer->vp,slice->xh,bool->o0
open Go.Obj renaming cells->pf
open Go.IntKind renaming i64->yh
open Or renaming inl->zk,inr->qx
open Go renaming iW->T,Aa->Z,Ab->Q,iR->E
open Go
open Go.Proofs.Tryz
variable {D H I K b d f g i m o os r y z:Nat}{F:iI}{O W u w:qi}{P:(Nat->p8)->Prop}{c:iG}{cs:iJ}{h keep kind:Int}{j:iM}{p:Prop}{s:iF}{t:uy}{v x:p8}
def Sj8(h:p:=by
 unfold Cell.ok at h;rw[r]at h;cases v<;>simp at h<;>rfl):p:=h
def Im7(h:p:=by
 exact⟨cs,C,λi v q=>let⟨u,r,E⟩:=T i v q;DJ ((aK Tryz.prog.underlying (dZ r)).trans Tryz.underlying9) E⟩):p:=h
def Nu8(h:p:=by
 exact⟨cs,C,λi v q=>let⟨u,r,E⟩:=T i v q;DH ((aK Tryz.prog.underlying (dZ r)).trans Tryz.underlying5) E⟩):p:=h
namespace Go.Proofs.Y
variable {A B:SA}{L:List Fl}{a e:ST}{k l q:List AS}
open Go.ChangeShapes Go.WideShapes Go.ChangeAt Go.RowKit Go.Pair
def Ak5(s:iF):iY s.data.toList=s.size:=Ac
def Ad6{H}(l):Rows.uptoBulk (DataW.lit (H:=H) (.string l))=l.length+1:=by simp [Rows.uptoBulk]
def BX{H}(d:DataW H):1<=Rows.uptoBulk d:=by cases d with|lit l=>cases l<;>simp[Rows.uptoBulk]|_=>simp[Rows.uptoBulk]
def Aac{H}{l:List (DataW H)}(h:i<iY l):Rows.uptoBulk l[i]<=Rows.uptoBulkAll l:=by induction l generalizing i with|nil=>simp at h|cons x r O=>simp[Rows.uptoBulkAll];grind
def XP:prog.cellsOf 32=6:=Q
def Ajb:prog.cellsOf 3=1:=Q
def Ajc:prog.cellsOf 4=1:=Q
def Vm{k u}(h:w.cell? (E b k)=je u):∃c t a,w.1[b]?=je (pf c t a)/\c[k]?=je u:=by rw[World.cell?]at h;grind
def Ir{k u}{c:iJ}{a}(D:w.1[b]?=je (pf c t a))(h:w.cell? (E b k)=je u):c[k]?=je u:=by have ⟨B,S,H,C,J⟩:=Vm h;grind
structure AkW(W:qi)(b off)(x:Ak):Prop where
 c0:W.cell? (iR b off)=je (iS x.k)
 c1:W.cell? ⟨b,off+1,zt⟩=je (iS x.a)
 c2:W.cell? ⟨b,off+2,zt⟩=je (iS x.b)
 c3:W.cell? ⟨b,off+3,zt⟩=je (zx x.s)
 c4:W.cell? ⟨b,off+4,zt⟩=je (iS x.v)
 c5:W.cell? ⟨b,off+5,zt⟩=je (o0 x.w)
def Adi(W:qi)(oA:iM)(xs:List Ak):Prop:=∀i(x:Ak),xs[i]?=je x->∃b off,oA=je (E b off)/\AkW W b (off+i * 6) x/\x.Ok
def Ad7{H}(l:List (DataW H))(h:∀i(V:i<iY l),5<=Rows.uptoBulk l[i]):5 * iY l<=Rows.uptoBulkAll l:=by induction l with|nil=>simp[Rows.uptoBulkAll]|cons x r O=>have F:=h 0 Ae;have C:=O λi V=>h (i+1) Adf;simp[Rows.uptoBulkAll,aW,bG]at F⊢;omega
def Ai8{a}{P:uy×p8->a}{e:iM}{y}(aa:DataW.trod P prog W 0 (λ_=>jz) jz I 22 [xh e H f]=je y)(E:Rows.uptoBulk y.1<=1048576):H<=f/\5 * H<=Rows.uptoBulk y.1/\∃X,iY X=H/\Adi W e X:=by
 obtain⟨z,_⟩|⟨v,len,ai,d,aj,n,al,z,hy,_,hl,hm,ag,O,_,_⟩:=DataW.trod_slice Tryz.underlying22 aa;simp[dX,and_true,jp9]at z;obtain⟨rfl,rfl,rfl⟩:=z;exact⟨Aa,Aa,[],iW,λi x V=>by simp at V⟩;simp[dX,and_true,jp9]at z;obtain⟨rfl,rfl,rfl⟩:=z;rw[hy]at E⊢;simp[Rows.uptoBulk]at E⊢;have j:∀i<H,(∀V:i<(d.map (·.1)).length,5<=Rows.uptoBulk ((d.map (·.1))[i]))/\∃x b off,v=(iR b off)/\AkW W b (off+i * 6) x/\x.Ok:=λi V=>?j;refine⟨hl,?_,List.ofFn (n:=H) λi=>Classical.choose (j i.1 i.2).2,Ae,λi x Z=>?_⟩;have:=Ad7 (d.map (·.1)) λi V=>(j i (by simpa[ag] using V)).1 V;rw[bR,ag]at this;omega;have V:i<H:=by have:=(aF.1 Z).1;simpa using this
 rw[List.getElem?_ofFn,dif_pos V]at Z;obtain⟨b,off,C,J,T⟩:=Classical.choose_spec (j i V).2;cases Z;exact⟨b,off,by rw[C],J,T⟩;have ar:True:=trivial;rw[XP]at O;have p:i<iY d:=Aa;have au:Rows.uptoBulk ((d.map (·.1))[i]'(by simpa using p))<=Rows.uptoBulkAll (d.map (·.1)):=Aac (by simpa using p);have he:=O i V;rw[aG p]at he;obtain⟨cs,z,am⟩:=bN.1 he;obtain⟨X,c,av,an,F,ab,g⟩:=DataW.trod_struct underlying32 am;rw[XP]at F;obtain⟨c0,Q,R,U,A,l,rfl⟩:∃c0 Q R U A l,cs = [c0,Q,R,U,A,l]:=by match cs,F with|[c0,Q,R,U,A,l],_=>exact⟨_,_,_,_,_,_,iW⟩
 obtain⟨G,K,L,w,y4,y5,rfl⟩:∃c0 Q R U A l,X = [c0,Q,R,U,A,l]:=by match X,ab with|[c0,Q,R,U,A,l],_=>exact⟨_,_,_,_,_,_,iW⟩
 have S:DataW.trod P prog W 0 (λ_=>jz) jz c 3 (qgl (prog.cellsOf 3) [c0,Q,R,U,A,l])=je G:=g 0 _ iW;have Y:DataW.trod P prog W 0 (λ_=>jz) jz c 3 (qgl (prog.cellsOf 3) [Q,R,U,A,l])=je K:=g 1 _ iW;have f2:DataW.trod P prog W 0 (λ_=>jz) jz c 3 (qgl (prog.cellsOf 3) [R,U,A,l])=je L:=g 2 _ iW;have f3:DataW.trod P prog W 0 (λ_=>jz) jz c 9 (qgl (prog.cellsOf 9) [U,A,l])=je w:=g 3 _ iW;have f4:DataW.trod P prog W 0 (λ_=>jz) jz c 3 (qgl (prog.cellsOf 3) [A,l])=je y4:=g 4 _ iW;have f5:DataW.trod P prog W 0 (λ_=>jz) jz c 4 (qgl (prog.cellsOf 4) [l])=je y5:=g 5 _ iW;rw[Ajb]at S Y f2 f4;rw[KT]at f3;rw[Ajc]at f5;obtain⟨z0,a1,_,ad⟩:=DataW.trod_int underlying3 S;obtain⟨z1,a6,_,ao⟩:=DataW.trod_int underlying3 Y;obtain⟨z2,a7,_,ap⟩:=DataW.trod_int underlying3 f2;obtain⟨s,e3,D,_⟩:=DataW.trod_string underlying9 f3;obtain⟨z4,e4,_,aq⟩:=DataW.trod_int underlying3 f4;obtain⟨bt,e5,_⟩:=DataW.trod_bool underlying4 f5;simp[List.take_succ_cons,List.take_zero,dX,and_true]at a1 a6 a7 e3 e4 e5;subst a1 a6 a7 e3 e4 e5;have aw:Rows.uptoBulk w.1+4<=Rows.uptoBulk ((d.map (·.1))[i]'(by simpa using p)):=by simp[List.getElem_map,an,bF,cM,Rows.uptoBulk,Rows.uptoBulkAll];have:=BX G.1;have:=BX K.1;have:=BX L.1;omega
 have ax:Rows.uptoBulk w.1=s.size+1:=by rw[D,Ad6,Ak5]
 obtain⟨b,off,a8⟩:=v;have M:∀k u,([iS z0,iS z1,iS z2,zx s,iS z4,o0 bt]:iK)[k]?=je u->W.cell? ((⟨b,off,a8⟩:uw).add (i * 6+k))=je u:=λk u h=>by have C:=(World.cells?_some z).2.2 k SE;rw[h]at C;rw[←C,Addr.add_add]
 have ae:a8=zt:=by by_cases ak:i=0;subst ak;simpa[Addr.add] using(World.cell?_spot (M 0 _ iW));have af:=O 0 Aa;rw[aG Aa]at af;obtain⟨ay,ah,_⟩:=bN.1 af;have T:=(World.cells?_some ah);have t:=T.2.2 0 Aa;rw[Nat.zero_mul]at t;simp[Addr.add,bV]at t;rw[aG (by rw[T.2.1];omega)]at t;exact World.cell?_spot t
 subst ae;have B:=M 0 _ iW;refine Qsy λm o N q r=>?_;rw[Addr.add_lit,←eW]at B m o N q r;refine⟨λaz=>?_,⟨z0,z1,z2,s,z4,bt⟩,b,off,iW,⟨B,m,o,N,q,r⟩,⟨mm ad,mm ao,mm ap,mm aq,by show s.size<=_;omega⟩⟩;omega
open Go
def Nf:S->Bool
 |o0 _|wy _ _|zx _=>jz
 |_=>vy
def Vu(h:Nf x=jz)(n):A2 n x=x:=by cases x<;>simp[Nf]at h⊢
def Ij:S->Nat
 |wy _ _=>0
 |zx _=>1
 |o0 _=>2
 |xh _ _ _=>3
 |_=>4
section
def Nh(h:W.ShapedOpen prog){g m t:Nat}{ts}(G:g<prog.globals.size)(F:(((begin prog (λ_ _=>0) default).world.1[g]?).bind Obj.row?).map (λx=>(iZ x.1,x.2))=je (m,t))(D:prog.buildable t=jz)(M:prog.cellTypes prog.depth t=je ts):∃cs,W.1[g]?=je (pf cs t (0,0))/\cs.size=m/\∀(i:Nat) v,cs[i]?=je v->∃u∈ts,Cell.ok prog W .any 0 u v:=by have ⟨⟨zero,S⟩,N,e⟩:=bA.1 F;cases e;have ⟨cs,f,s,Y⟩:=h.1 g zero S G N;have ⟨d,Z,_,K⟩:=Y D;grind
def DJ{u}(r:prog.underlying u=je .string)(h:Cell.ok prog W .any 0 u v):Ij v=1:=by exact Sj8
def DH{u k}(r:prog.underlying u=je (.int k))(h:Cell.ok prog W .any 0 u v):Ij v=0:=by exact Sj8
def Aj5{u e}(r:prog.underlying u=je (.slice e))(h:Cell.ok prog W .any 0 u v):Ij v=3:=by exact Sj8
structure NU(W:qi)(g k:Nat)(cs:iJ)(t):Prop where
 row:W.1[g]?=je (pf cs t (0,0))
 kind:∀(i:Nat) v,cs[i]?=je v->Ij v=k
def Afc(h:W.ShapedOpen prog):∃cs,NU W 0 1 cs 178:=by obtain⟨cs,C,J,T⟩:=Nh h (g:=0) (m:=24) (t:=178) (ts:=zn 24 9) (of_decide_eq_true Q) Q Q Q;exact Im7
def Aff(h:W.ShapedOpen prog):∃cs,NU W 3 1 cs 178:=by obtain⟨cs,C,J,T⟩:=Nh h (g:=3) (m:=24) (t:=178) (ts:=zn 24 9) (of_decide_eq_true Q) Q Q Q;exact Im7
def Afe(h:W.ShapedOpen prog):∃cs,NU W 2 1 cs 177:=by obtain⟨cs,C,J,T⟩:=Nh h (g:=2) (m:=3) (t:=177) (ts:=zn 3 9) (of_decide_eq_true Q) Q Q Q;exact Im7
def Afd(h:W.ShapedOpen prog):∃cs,NU W 1 0 cs 3:=by obtain⟨cs,C,J,T⟩:=Nh h (g:=1) (m:=1) (t:=3) (ts:=zn 1 3) (of_decide_eq_true Q) Q Q Q;exact⟨cs,C,λi v q=>let⟨u,r,E⟩:=T i v q;DH ((aK prog.underlying (dZ r)).trans underlying3) E⟩
def Afh(h:W.ShapedOpen prog):∃cs,NU W 5 0 cs 292:=by obtain⟨cs,C,J,T⟩:=Nh h (g:=5) (m:=256) (t:=292) (ts:=zn 256 5) (of_decide_eq_true Q) Q Q Q;exact Nu8
def Afi(h:W.ShapedOpen prog):∃cs,NU W 6 0 cs 295:=by obtain⟨cs,C,J,T⟩:=Nh h (g:=6) (m:=32) (t:=295) (ts:=zn 32 5) (of_decide_eq_true Q) Q Q Q;exact Nu8
def Afg(h:W.ShapedOpen prog):∃cs,NU W 4 3 cs 284/\cs.size=4:=by obtain⟨cs,C,J,T⟩:=Nh h (g:=4) (m:=4) (t:=284) (ts:=zn 4 283) (of_decide_eq_true Q) Q Q Q;exact⟨cs,⟨C,λi v q=>let⟨u,r,E⟩:=T i v q;Aj5 ((aK prog.underlying (dZ r)).trans underlying283) E⟩,J⟩
def PO:H9.toList.all Nf=jz:=Q
def Aj8:H9.toList.all (λx=>Ij x != 1)=jz:=Q
def Afv:(List.range 49).all (λo=>match H9[o]?,H9[o+1]? with|some (o0 _),je (wy yh _)=>vy|_,_=>jz)=jz:=Ab
def Ii{k}(h:NU W g k cs t){b o x}(Z:W.cell? (iR b o)=je x)(E:Ij x≠k):b≠g:=λe=>by subst e;have:=Ir h.1 Z;exact E (h.2 o x this)
def Amu(h:W.ShapedOpen prog)(V:Table W){off x}(Z:AkW W b off x):8<=b:=by have ⟨c0,I⟩:=Afc h;have ⟨Q,X⟩:=Afd h;have ⟨R,o⟩:=Afe h;have ⟨U,d⟩:=Aff h;have ⟨u,K,_⟩:=Afg h;have ⟨l,O⟩:=Afh h;have ⟨q,f⟩:=Afi h;have ⟨g,c,M⟩:=V;have F:=Ii I Z.1 HV;have S:=Ii X Z.4 HV;have L:=Ii o Z.1 HV;have Y:=Ii d Z.1 HV;have s:=Ii K Z.1 HV;have t:=Ii O Z.4 HV;have a:=Ii f Z.4 HV;(have E:b≠7:=λe=>by subst e;have C:=Ir M Z.4;have J:=cV.1 Aj8 _ (aS Ah5);simp[Ij]at J);omega
def MX(h:W.ShapedOpen prog)(V:Table W){x:Tl}(F:W.cell? (iR b o)=je (iS x.1))(C:W.cell? ⟨b,o+1,zt⟩=je (o0 x.2.1))(J:W.cell? ⟨b,o+2,zt⟩=je (iS x.2.2)):8<=b:=by obtain⟨c0,I⟩:=Afc h;obtain⟨Q,X⟩:=Afd h;obtain⟨R,a⟩:=Afe h;obtain⟨U,d⟩:=Aff h;obtain⟨u,K,_⟩:=Afg h;obtain⟨l,O⟩:=Afh h;obtain⟨q,f⟩:=Afi h;obtain⟨n,j,M⟩:=V;have g:=Ii I F HV;have S:=Ii X C HV;have L:=Ii a F HV;have Y:=Ii d F HV;have s:=Ii K F HV;have t:=Ii O C HV;have i:=Ii f C HV;(have E:b≠7:=λe=>by subst e;have c:=Ir M C;have k:=Ir M J;have N:=(aJ.1 c).1;have m:=cV.1 Afv (o+1) (List.mem_range.2 N);grind);omega
def IA(h:W.ShapedOpen prog)(V:Table W)(G:g<8):∃cs t b,W.1[g]?=je (pf cs t b)/\(g≠4->∀(i:Nat) v,cs[i]?=je v->Nf v=jz)/\(g=4->cs.size=4/\∀(i:Nat) v,cs[i]?=je v->Ij v=3):=by (have E:∀{v} {k},Ij v=k->k<3->Nf v=jz:=λ{v k} C J=>by cases v<;>simp[Ij,Nf]at C⊢<;>omega);obtain⟨c0,I⟩:=Afc h;obtain⟨Q,X⟩:=Afd h;obtain⟨R,a⟩:=Afe h;obtain⟨U,d⟩:=Aff h;obtain⟨u,K,x⟩:=Afg h;obtain⟨l,O⟩:=Afh h;obtain⟨c,f⟩:=Afi h;obtain⟨m,j,M⟩:=V;have:g=0∨g=1∨g=2∨g=3∨g=4∨g=5∨g=6∨g=7:=Z;obtain rfl|rfl|rfl|rfl|rfl|rfl|rfl|rfl:=this;exact⟨_,_,_,I.1,λ_ i v q=>E (I.2 i v q) Z,λe=>Z⟩;exact⟨_,_,_,X.1,λ_ i v q=>E (X.2 i v q) Z,λe=>Z⟩;exact⟨_,_,_,a.1,λ_ i v q=>E (a.2 i v q) Z,λe=>Z⟩;exact⟨_,_,_,d.1,λ_ i v q=>E (d.2 i v q) Z,λe=>Z⟩;exact⟨_,_,_,K.1,λe=>(e T).elim,λ_=>⟨x,K.2⟩⟩;exact⟨_,_,_,O.1,λ_ i v q=>E (O.2 i v q) Z,λe=>Z⟩;exact⟨_,_,_,f.1,λ_ i v q=>E (f.2 i v q) Z,λe=>Z⟩;exact⟨_,_,_,M,λ_ i v q=>cV.1 PO _ (aS Ah5),λe=>Z⟩
end
open Go.Conc
def To(l:iO)(r:Nat):List Nat:=if r∈l then l else l++[r]
section
variable {l:iO} {x:Nat}
def Adt:r∈To l r:=by rw[To];split<;>simp_all
def Adu(h:x∈l):x∈To l r:=by rw[To];split<;>simp_all
def Ai3(h:l.Nodup):(To l r).Nodup:=by rw[To];grind
def Ai2(h:l[i]?=je y):(To l r)[i]?=je y:=by rw[To];grind
def Ads(h:x∈To l r):x∈l∨x=r:=by rw[To]at h;grind
def LP(h:r∈l):l[l.idxOf r]?=je r:=by grind
end
def Yx(l:iO)(a:uw):uw:={ a with block:=l.idxOf a.block }
def Q3(l:iO):S->S
 |xh (je a) n c=>xh (je (Yx l a)) n c
 |x=>x
def Shown(l:iO)(x:S):Prop:=Nf x=jz∨∃a m k,x=xh a m k/\∀b,a=je b->b.block∈l
def KD(l:iO)(m:Ren):Prop:=∀i r,l[i]?=je r->sh m i=r
section
variable {l:iO} {m:Ren}
def Ow(Z:Nf x=jz):Q3 l x=x:=by cases x<;>simp[Nf]at Z<;>rfl
def OC(h:KD l m)(Z:Shown l x):A2 m (Q3 l x)=x:=by obtain Z|⟨a,k,c,rfl,D⟩:=Z;rw[Ow Z,Vu Z];cases a with|none=>simp[Q3]|some b=>have:=h _ _ (LP (D b T));simp[Q3,Yx,Ew,this]
def XN(Z:Shown l x):A2 (.up (iY l)) (Q3 l x)=Q3 l x:=by obtain Z|⟨a,k,c,rfl,D⟩:=Z;rw[Ow Z,Vu Z];cases a with|none=>simp[Q3]|some b=>simp[Q3,Yx,Ew,I7 (eU.2 (D b T))]
end
def OY(x:S):S:=if Nf x=jz then x else o0 vy
def UJ(x):Nf (OY x)=jz:=by rw[OY];split;assumption;rfl
def Pa(l:iO)(i:Nat)(x:S):S:=if i<8 then Q3 l x else OY x
def YI(W:qi)(l:iO)(i r:Nat):Obj:=match W.1[r]? with
 |some (pf c t fz)=>pf (c.map (Pa l i)) t fz
 |_=>pf #[] 0 (0,0)
def Ik(W:qi)(l:iO):qi:={ W with heap:=(l.mapIdx (YI W l)).toArray }
structure Z4(W:qi)(l:iO):Prop where
 nod:l.Nodup
 row:∀x∈l,∃c t fz,W.1[x]?=je (pf c t fz)
 g8:∀i<8,l[i]?=je i
 glob:∀i c t fz,i<8->W.1[i]?=je (pf c t fz)->∀(j:Nat) x,c[j]?=je x->Shown l x
def J0L(W:qi)(l:iO)(q:Loc):Prop:=∃i j r x,q=.cell (E i j)/\8<=i/\l[i]?=je r/\W.cell? (E r j)=je x/\Nf x=vy
def TAL(l:iO)(i:Nat):Prop:=8<=i/\i<iY l
section
variable {l:iO} {j:Nat} {o:Obj} {m:Goroutine}
def Z4.lt(S:Z4 W l):∀x∈l,x<iZ W.1:=λx Z=>by have ⟨c,t,a,h⟩:=S.2 x Z;exact ltOf h
def Z4.n(S:Z4 W l):Ren:=Ren.ofList l W.1.size S.1 S.lt
def Z4.agr(S:Z4 W l):KD l S.n:=λi r h=>X9 h
def Z4.len(S:Z4 W l):8<=iY l:=(aF.1 (S.g8 7 Z)).1
def Jv:(Ik W l).1.size=iY l:=by simp[Ik]
def PR(h:l[i]?=je r):(Ik W l).1[i]?=je (YI W l i r):=by simp[Ik,List.getElem?_mapIdx,h]
def Pb{c:iJ}{a}(h:l[i]?=je r)(J:W.1[r]?=je (pf c t a)):(Ik W l).1[i]?=je (pf (c.map (Pa l i)) t a):=by rw[PR h,YI,J]
def Wc(S:Z4 W l)(h:(Ik W l).1[i]?=je o):∃r c t a,l[i]?=je r/\W.1[r]?=je (pf c t a)/\o=pf (c.map (Pa l i)) t a:=by (have V:i<iY l:=Jv▸ltOf h);have ⟨c,t,a,C⟩:=S.2 l[i] (bP V);refine⟨_,c,t,a,aG V,C,?_⟩;rw[Pb (aG V) C]at h;grind
def X1(h:l[i]?=je r):(Ik W l).cell? (E i j)=(W.cell? (E r j)).map (Pa l i):=by unfold World.cell?;rw[PR h,YI];grind
def Z4.rows(S:Z4 W l):Go.Pair.RowsIn (TAL l) (Ik W l):=λi V=>by have K:=V.2;have ⟨c,t,a,h⟩:=S.2 l[i] (bP K);exact⟨_,_,_,Pb (aG K) h⟩
def Aj3:Qv (TAL l) (J0L W l):=λq f=>by obtain⟨i,j,r,x,rfl,C,J,_⟩:=f;exact⟨_,T,C,(aF.1 J).1⟩
def PS(S:Z4 W l){m}(L:KD l m){c:iJ}{a}(h:l[i]?=je r)(J:W.1[r]?=je (pf c t a))(Z:c[j]?=je x)(d:¬J0L W l (.cell (E i j))):A2 m (Pa l i x)=x:=by rw[Pa];split;rename_i b;(have:r=i:=by have:=S.3 i b;grind);subst this;exact OC L (S.4 r c t a b J j x Z);by_cases I:Nf x=jz;simp[OY,I,bV];exact Vu I m;exact absurd ⟨i,j,r,x,T,Aa,h,by rwa[Cm J],by simpa using I⟩ d
def Z4.side(S:Z4 W l){H:Fh}(d:∀q,Jf (Ik W l) q->¬J0L W l q->¬H.In (Ha S.n q))(G:Bt (.up (iY l)) m=m):Dp prog S.n (JOr Dy (J0L W l)) (H.Own λ_=>False) m (Ik W l) W:=by refine Dp.ofList S.1 S.lt Jv T T T T (λi r o V O=>?_) (λi V=>S.3 i (by simp_all)) ⟨λi o O=>?_,by rwa[Jv]⟩ λq f b=>⟨id,d q f λh=>b (qx h)⟩;obtain⟨D,c,t,e,C,J,rfl⟩:=Wc S O;obtain rfl:=aC (V.symm.trans C);refine⟨_,J,qx (zk ⟨_,_,_,_,T,T,Ae,λj b=>?_⟩)⟩;(cases M:c[j]? with|none=>simp[M]|some x=>simp only[aM,M,aI];exact aK je (PS S S.agr C J M λh=>b (qx h)).symm);obtain⟨r,c,t,e,C,J,rfl⟩:=Wc S O;refine qx (zk ⟨_,_,_,_,T,T,T,λj b=>?_⟩);cases M:c[j]? with|none=>simp[M]|some x=>simp[aM,M,aI,aU];rw[Jv,Pa];split;rename_i I;(have:r=i:=by have:=S.3 i I;rw[C]at this;exact aC this);subst this;exact(XN (S.4 r c t e I J j x M)).symm;exact(Vu (UJ x) _).symm
def Z4.stand(e:Z4 W l){H:Fh}(n:H.3=W)(L:∀u,Jf W u->(∀K,Jf (Ik W l) K->¬J0L W l K->u≠Ha e.n K)->H.In u){a b v w}(hs:Dp prog a (JOr Dy (J0L W l)) b m v w)(a6:Ax (Ik W l) v (iY l<=·))(p:H.Kept w)(M:KD l a):∀i<iZ W.1,w.1[i]?=W.1[i]?:=λi V=>by
 have P:∀k j(x:p8),W.cell? (iR k j)=je x->(∀F,l[F]?=je k->J0L W l (.cell (iR F j)))->H.2 (.cell (iR k j)):=λk j x Z y=>L _ ⟨x,Z⟩ λK z h c=>by cases K with|cell q=>obtain⟨g,f,Q⟩:=q;simp[Ha,Ew,Loc.cell.injEq,Addr.mk.injEq]at c;obtain⟨S,rfl,rfl⟩:=c;obtain⟨aj,a7⟩:=z;(have a8:g<iY l:=by have:=Lb a7;rwa[Jv]at this);have C:=e.agr g _ (aG a8);grind|_=>simp[Ha]at c
 have O:W.1[i]?=je W.1[i]:=aN V;generalize W.1[i]=o at O;by_cases R:∃d t A,o=pf d t A;obtain⟨d,t,A,rfl⟩:=R;have E:∀B,w.1[i]?=je (pf B t A)->B.size=d.size->(∀j x,d[j]?=je x->B[j]?=je x)->w.1[i]?=W.1[i]?:=λB C J T=>by rw[C,O];congr 2;refine bZ λj=>?_;by_cases h:j<d.size;rw[T j d[j] (aN h),aN h];rw[cW Aa,cW Aa]
 by_cases N:d=#[];obtain⟨B,C,J⟩:=p.2 i d t A (by rwa[n]) (zk N);exact E B C J λj x Z=>by rw[N]at Z;simp at Z
 by_cases G:i∈l;have X:=LP G;have ak:l.idxOf i<iY l:=eU.2 G;have U:=Pb X O;rw[←a6.5 _ (by rwa[Jv]) Aa]at U;obtain⟨aa,C,J⟩:=(hs.1 0).4 _ _ U;rw[M _ _ X]at C;have s:∀B,w.1[i]?=je (pf B t A)->B.size=d.size->(∀j,¬(JOr Dy (J0L W l)) (.cell ⟨l.idxOf i,j,zt⟩)->B[j]?=((d.map (Pa l (l.idxOf i)))[j]?).map (A2 a))->w.1[i]?=W.1[i]?:=λB Y g2 ab=>E B Y g2 λj x Z=>by by_cases y:J0L W l (.cell ⟨l.idxOf i,j,zt⟩);have T:=p.1 (iR i j) (P i j x (by rwa[Cm O]) λF I=>by (have:F=l.idxOf i:=by exact(List.getElem_inj e.1).1 (((aF.1 I)).2.trans ((aF.1 X)).2.symm));rwa[this]);rw[n,Cm Y,Cm O]at T;rwa[T];rw[ab j λae=>ae.elim id y,aM,Z,aI,aI,PS e M X O Z y]
 obtain rfl|⟨al,B,af,ah,S,rfl,e2,e3⟩|⟨⟨T|T,_⟩,_⟩|⟨B,af,ah,S,rfl⟩:=J;exact s _ C Ae λj h=>Ae;cases S;exact s _ C (by rw[e2];simp) e3;exact T.elim;obtain⟨_,_,_,_,c,_⟩:=T;cases c;exfalso;have:d.map (Pa l (l.idxOf i))=#[]:=by simp only[Obj.cells.injEq]at S;exact S.1
 exact N (by simpa using this);have ad:∀j x,d[j]?=je x->H.2 (.cell (iR i j)):=λj x Z=>P i j x (by rwa[Cm O]) λF I=>absurd (aS I) G;have ai:0<d.size:=Nat.pos_of_ne_zero λc=>N (dY c);obtain⟨B,C,J⟩:=p.2 i d t A (by rwa[n]) (qx ⟨0,ad 0 d[0] (aN ai)⟩);refine E B C J λj x Z=>?_;have T:=p.1 (iR i j) (ad j x Z);rw[n,Cm C,Cm O]at T;rwa[T];have a1:Cn o:=λd t A c=>R ⟨d,t,A,c⟩;rw[O];refine p.3 i o (L _ ⟨o,O,a1⟩ λK z h c=>?_) (by rwa[n]) a1;cases K with|obj r=>obtain⟨aa,C,J⟩:=z;obtain⟨D,d,t,A,_,_,rfl⟩:=Wc e C;exact J _ _ _ iW|_=>simp[Ha]at c
end
open Go.Maps
section
variable {h:iG} {r:iC} {v w f:iG} {X:iG} {Post:PA y F} {N:Goroutine->qi->Prop} {a:AS}
def Sv.feedA(U:Hq D8 F)(h:Sv F y c u d A e l r v)(V:l[i]?=je a)(E:a.ver=1)(p:a.en=vy)(j:r[i]?=je [])(k:AOk l)(Q:∀a∈l,iY a.lo+2000<=9000000000)(s:BL e){x kind n}(m:1<=kind)(M:kind<=7){ob T I}(B:SU y c u v A.D ob T I (Gj (Xr x kind n)).data.toList):Ba prog jz Dy (Pq Post) 7 #[HZ d,iS a.k,Ke ob T (Gj (Xr x kind n)).data.toList.length I] u λb O=>∃G q f,b=iS (CI G.down)/\Sv F y c O d A G q r f/\Je u O v f/\Fc (Ts x kind n) i e l G q:=by obtain⟨L,t,z,N,h,rfl,rfl⟩:=h;have R:=BO x m M n;(obtain⟨g,H,rfl⟩:∃g,N[i]?=je g/\g.abs=a:=by grind);apply Bf (XY U Mv h H E p j k Q s R.1 R.2 R.3 Adl R.p R.d B);rintro b O⟨X,G,C,o,w,J,D,K,W⟩;exact⟨G,_,_,J,⟨X,C,o,w,D,iW,iW⟩,K.moved,W⟩
def Sv.feedD(h:Sv F y c u d A e l r v)(V:l[i]?=je a)(E:keyOf prog 3 (iS a.k)=je (Lit.int yh a.k))(b:e.down=jz)(T):Ba prog jz Dy N 7 #[HZ d,iS a.k,T] u λf O=>f=iS 18/\Ax u O iV:=by obtain⟨L,q,s,j,h,rfl,rfl⟩:=h;(obtain⟨g,H,rfl⟩:∃g,j[i]?=je g/\g.abs=a:=by grind);exact Go.Proofs.Y.feedD h.H h.2 H E b T
def Sv.connD(h:Sv F y c u d A e l r v)(a:e.down=jz):Ba prog jz Dy N 31 #[HZ d] u λb O=>b=.tuple #[iS 0,iS 18]/\Ax u O iV:=by obtain⟨L,f,s,g,h,rfl,rfl⟩:=h;exact Go.Proofs.Y.connD h.H h.2 a
def Sv.snap(U:Hq D8 F)(i:∀w,F w->E8 w)(j:∀p,Em p=jz->D8 p=jz)(h:Sv F y c u d A e l r v)(k:Dz (e.num,e.ns))(m:iY e.L<=900000)(n:∀o∈e.L,o.d.size<=1000000000000):Ba prog jz Dy (Pq Post) 14 #[HZ d] u λa O=>∃G f,GP e a G/\Sv F y c O d A G l r f/\Je u O v f:=by
 obtain⟨L,x,s,z,h,rfl,rfl⟩:=h;apply Bf (Arl (Post:=Post) U Mv i j h.H k m n h.2);rintro a O⟨G,b,q,C,J,T⟩;have t:¬Im L A b z d:=λg=>(T.2 _ g).elim h.3 λg=>by have:=ltOf h.2;omega
 exact⟨G,_,C,⟨L,b,q,z,⟨J,T.K.get h.2 h.3,t⟩,iW,iW⟩,T.moved⟩
def Sv.stop(h:Sv F y c u d A e l r v)(p:u.1[H]?=je (pf #[HZ A.K] 56))(n)(z:n<=9223372036854775807):Ba prog jz Dy N 11 #[HZ H,iS n] u λa O=>a=.tuple #[]/\Sv F y c O d A { e with left:=RX e.left n } l r v/\Je u O v v:=by obtain⟨L,b,s,k,h,rfl,rfl⟩:=h;have S:=h.H.F.1;apply Bf (Aro (D:=A.D) ⟨S.6,S.7,S.8,S.9⟩ p n z);rintro a O⟨rfl,f,K⟩;have g:I8 u O A.K _ (Cl b):=⟨K.mono λj h=>zk h,λ_ h=>zk h⟩;have ⟨i,Q⟩:=h.H.disk f g;exact⟨T,⟨L,b,s,k,⟨i,Q.K.get h.2 h.3,h.3⟩,T,T⟩,Q.moved⟩
def Sv.stopped(h:Sv F y c u d A e l r v):Ba prog jz Dy N 15 #[HZ A.D] u λa O=>a=o0 (decide (e.left=0))/\Ax u O iV:=by obtain⟨L,b,s,f,h,rfl,rfl⟩:=h;have S:=h.H.F.1;exact Xg ⟨S.6,S.7,S.8,S.9⟩
def Sv.crash(h:Sv F y c u d A e l r v)(p:u.1[H]?=je (pf #[HZ A.K] 56))(keep)(b:-9223372036854775808<=keep)(X:keep<=9223372036854775807)(g:iY e.L<=1000000)(hs:∀f∈e.L,f.s<=f.d.size)(i:∀f∈e.L,f.d.size<=1099511627776):Ba prog jz Dy N 32 #[HZ H,iS keep] u λj O=>∃D a k m n,j=.tuple #[HZ D,HZ a]/\Adj u O D a k (e.L.map (cr keep)) m n:=by obtain⟨L,o,s,q,h,rfl,rfl⟩:=h;have S:=h.H.F.1;exact Ael ⟨S.6,S.7,S.8,S.9⟩ p keep b X g hs i
def Sv.sameP{a d}(h:Sv F y c u os A e l r w)(g:Sv F y c u b B a k d v)(G:Dz (e.num,e.ns))(hs:Z6 (a.num,a.ns) (e.num,e.ns)):Ba prog jz Dy N 9 #[HZ os,HZ b] u λx O=>x=o0 jz/\Ax u O iV:=by obtain⟨L,f,s,m,h,rfl,rfl⟩:=h;obtain⟨X,i,W,j,g,rfl,rfl⟩:=g;exact Acm h g Adc G.4 hs.1 hs.2
def Sv.sameA{a d}(h:Sv F y c u os A e l r w)(g:Sv F y c u b B a k d v)(G:Dz (e.num,e.ns))(t:Dz (a.num,a.ns)):Ba prog jz Dy N 9 #[HZ os,HZ b] u λx O=>(∃m,x=o0 m)/\Ax u O iV:=by obtain⟨L,f,s,n,h,rfl,rfl⟩:=h;obtain⟨X,i,W,j,g,rfl,rfl⟩:=g;exact Acl h g Adc (by have ⟨x,Z⟩:=t.6;exact fC Z)
end
noncomputable def LT(f:iL):Act:={ tmps:=#[f 0,f 1,f 2,f 3,f 4,f 5,f 6,f 7,f 8,f 9,f 10,f 11,f 12,f 13,f 14,f 15,f 16,f 17,f 18,f 19,f 20,f 21,f 22,f 23,f 24,f 25,f 26,f 27,f 28,f 29,f 30,f 31,f 32,f 33,f 34,f 35,f 36,f 37,f 38,f 39,f 40,f 41,f 42,f 43,f 44,f 45,f 46,f 47,f 48,f 49,f 50,f 51,f 52,f 53,f 54,f 55,f 56,f 57,f 58,f 59,f 60,f 61,f 62,f 63,f 64,f 65,f 66,f 67,f 68,f 69,f 70,f 71,f 72,f 73,f 74,f 75,f 76,f 77,f 78,f 79,f 80,f 81,f 82,f 83,f 84,f 85,f 86,f 87,f 88,f 89,f 90,f 91,f 92,f 93,f 94,f 95,f 96,f 97,f 98,f 99,f 100,f 101,f 102,f 103,f 104,f 105,f 106,f 107,f 108,f 109,f 110,f 111,f 112,f 113,f 114,f 115,f 116,f 117,f 118,f 119,f 120,f 121,f 122,f 123,f 124,f 125,f 126,f 127,f 128,f 129,f 130,f 131,f 132,f 133,f 134],defers:=[] }
def Aju{a}(h:a=LT λj=>a.tmps.getD j re)(Q:P λj=>a.tmps.getD j re):∃f,a=LT f/\P f:=⟨_,h,Q⟩
structure SlL(os ot H)(s:iF)(keep)(f:iL):Prop where
 h0:f 0=HZ os
 h1:f 1=HZ ot
 h2:f 2=iS 1
 h3:f 3=iS 1
 h4:f 4=HZ H
 h5:f 5=zx s
 h6:f 6=iS keep
structure Hn(u:qi)(H K:Nat)(Fs Ft:iG):Prop where
 h:u.1[H]?=je (pf #[HZ K] 56)
 s:¬Fs H
 t:¬Ft H
section
variable {w v R:iG}
def Hn.kf(h:Hn u H K w v)(k:Ax u O iV):Hn O H K w v:=⟨k.get h.h id,h.s,h.t⟩
def Hn.mvS(h:Hn u H K w v)(M:Je u O w R):Hn O H K R v:=⟨M.K.get h.h h.s,λe=>(M.2 _ e).elim h.s λe=>by have:=ltOf h.h;omega,h.t⟩
def Hn.mvT(h:Hn u H K w v)(M:Je u O v R):Hn O H K w R:=⟨M.K.get h.h h.t,h.s,λe=>(M.2 _ e).elim h.t λe=>by have:=ltOf h.h;omega⟩
end
section
variable {e tb M sm P:Nat} {d:List Fl} {a b:iM} {t:Tr}
def Z7.sv(h:Z7 u O e D K L a M sm tb f t d b i)(H:O.1[P]?=je (pf #[HZ e] 74))(V:Dz t)(r:∀p,Em p=jz->Jr D8 p)(C:Cx F y Dy c O)(G:∀l<8,∃s g fz,O.1[l]?=je (pf s g fz))(v:y<=iZ u.1)(w:∀j,c j->j<iZ u.1)(x:y<=D)(z:y<=K)(N:¬c D)(W:¬c K)(A:∀m,Cl a=je m->y<=m/\¬c m):∃n,Sv F y c O P ⟨e,D,K,tb,f,M,sm⟩ ⟨0,vy,t.1,t.2,[],-1,d⟩ [] [] n/\∀j,n j->j=K∨Cl a=je j∨iZ u.1<=j:=by refine⟨_,⟨λ_=>(re,re),b,i,[],⟨h.fuld V r C G v w x z N W A,H,?_⟩,T,T⟩,λj B=>h.foot B⟩;rintro((g|g|g|g|g|g|g)|⟨l,p,Q,_⟩|⟨l,p,Q,_⟩);obtain rfl:P=e:=g;cases H.symm.trans h.1;obtain rfl:P=K:=g;cases H.symm.trans h.d.2.1;have ⟨cs,E⟩:=Ex h.d.2.2 ((Of b _ _).trans g);cases H.symm.trans E;obtain rfl:P=tb:=g;cases H.symm.trans h.2.1;obtain rfl:P=f:=g;have ⟨⟨o,q,k,_⟩,_⟩:=h.2.2;cases H.symm.trans k;obtain rfl:P=M:=g;have ⟨⟨o,q,k,_⟩,_⟩:=h.3;cases H.symm.trans k;obtain rfl:P=sm:=g;have ⟨⟨o,q,k,_⟩,_⟩:=h.4;cases H.symm.trans k;simp at Q;simp at Q
end
structure Dx(σ:ST)(t0 rs y):Prop where
 di:DI σ.L t0 rs y
 tg:Dz t0
 ok:∀c∈rs,Kf D8 c
 same:Z6 (replay rs t0) (σ.num,σ.ns)
 tr:Dz (σ.num,σ.ns)
def Dm.dx{u r}(D:Dm D8 a u r):Dx a u r []:=⟨D.di,D.2,D.ok,D.same,D.tr⟩
def Amq(σ:ST)(s:iF)(c:Rc):Prop:=∃x kind n,s=Gj (Xr x kind n)/\1<=kind/\kind<=7/\(Ts x kind n).kind<=3/\Du (Ts x kind n).kind σ.ns (Ts x kind n).p (Ts x kind n).d (Ts x kind n).ver=0/\Kf D8 c/\c=ED (Ts x kind n) σ.num
def Tn(σ:ST)(s:iF):Prop:=∃t0 rs,(s=iU∨(s≠iU/\σ.down=jz))/\(Dx σ t0 rs []∨∃c,Amq σ s c/\Dx σ t0 rs c.frame.data.toList)
def AR(b):Gj b≠⟨#[]⟩:=λe=>by have:=aK ByteArray.size e;rw[Jt,show(iU:iF).size=0 from T]at this;omega
def Aid(h:s≠iU):¬s.toList = []:=λe=>h (TQ (by rw[←Lib.toList_data];exact e))
structure Aft(σ:ST)(s keep t0 rs rs' x q):Prop where
 rd:Rd D8 (σ.L.map (cr keep)) t0 rs rs' x q
 tg:Dz t0
 same:Z6 (replay rs t0) (σ.num,σ.ns)
 tr:Dz (σ.num,σ.ns)
 le:∀f∈σ.L,f.s<=f.d.size
 le':∀f∈σ.L.map (cr keep),f.s<=f.d.size
 again:(σ.L.map (cr keep)).map (cr 0)=σ.L.map (cr keep)
 is:rs'=rs∨∃c,Amq σ s c/\rs'=rs++[c]
def Tn.aft(h:Tn a s)(keep):∃u r b x q,Aft a s keep u r b x q:=by obtain⟨u,r,_,D|⟨c,M,D⟩⟩:=h;have C:=OP D.1 D.3 keep;exact⟨u,r,r,[],[],C,D.2,D.4,D.5,D.1.2,C.1.2,Vt D.1 keep,zk T⟩;(have E:Kf D8 c:=by have ⟨x,kind,n,_,_,_,_,_,h,_⟩:=M;exact h);have ⟨b,x,q,C,J⟩:=TZ D.1 D.3 E keep;exact⟨u,r,b,x,q,C,D.2,D.4,D.5,D.1.2,C.1.2,Vt D.1 keep,J.imp id λe=>⟨c,M,e⟩⟩
section
variable {m:qi} {Post:PA y F} {f:iL} {g:ST} {r i:iC} {w v:iG}
def Sv.cx0(h:Sv F y c u os A e l r v):Cx F y Dy iV u:=⟨vw0 _,h.C.G,λ_ h=>h.elim,h.C.sz,h.C.g8⟩
def Aq0(U:Hq D8 F)(c:∀w,F w->E8 w)(C:Cx F y Dy iV u)(G:∀i<8,∃d e f,u.1[i]?=je (pf d e f)){v s}(j:Mx u D K (-1) L v s)(k:y<=D)(l:y<=K)(m:∀g,Cl v=je g->y<=g)(n:iY L<=900000)(o:∀f∈L,f.d.size<=1000000000000){a r b x q}(R:Rd D8 L a r b x q)(p:Dz a):Ba prog jz Dy (Pq Post) 17 #[HZ D] u λt O=>∃P,t=.tuple #[HZ P,iS 0]/\∃z M sm tb A B E H,O.1[P]?=je (pf #[HZ z] 74)/\iZ u.1<=P/\Z7 u O z D K L v M sm tb A (replay b a) B E H:=by apply Bf (Aqz (Post:=Post) U Mv (λI h _ _=>Ju h) c (λI h=>(Ju h).3) C G j k l m n o R.1 p R.2 R.3);grind
def Aqm(U:Hq D8 F)(bd:∀q,F q->E8 q)(b5:GQ m F y c u os b A B e g [⟨1,1,vy,[]⟩] [⟨1,1,vy,[]⟩] r [[]] w v)(hn:Hn u H A.K w v)(O:Eqv e g)(Lo:Tn e s)(ok:BL g)(hL:iY e.L<=900000)(hz:∀f∈e.L,f.d.size<=1000000000000)(cm:-9223372036854775808<=keep)(bf:keep<=9223372036854775807):Ba prog jz Dy (Pq Post) 16 #[HZ os,HZ b,iS 1,iS 1,HZ H,zx s,iS keep] u λx P=>x=o0 jz/\Ax m P (λj=>y<=j):=by
 obtain⟨t0,i,au,x,dk,Q⟩:=Lo.aft keep;have av:Z6 (g.3,g.4) (e.3,e.4):=by have:=Z6.refl Q.4;rw[O.1,O.2]at this⊢;exact this
 have cn:s=iU∨(s≠iU/\e.2=jz):=let⟨_,_,p,_⟩:=Lo;p;refine Bh func16 Ac iW (R:=λcp=>cp.getD 14 re) (λ_ _=>results_tmp Ac _ _ _) (λ_ _=>events_results_tmp Ac _ _) ?_;simp only[ntmps16,na,Nat.reduceAdd,Nat.reduceSub];refine G9s ?_;refine T03 ?_;refine G9s ?_;refine Wad ?_;refine A0 (b5.s.sameP b5.t Q.4 av) iW Ac iW Af ?_;rintro k b6⟨rfl,E⟩;walk_nrm;refine T03 ?_;refine Ne8 ?_;refine Qit ?_;refine N2i ?_;refine Pv2 ?_;refine Av ?_;have T1:=b5.kf E;have n1:=hn.kf E;refine Fe (Q:=λd a' P=>d=.normal/\∃al,a'=LT al/\SlL os b H s keep al/\∃F',GQ m F y c P os b A B e g [⟨1,1,vy,[]⟩] [⟨1,1,vy,[]⟩] r [[]] F' v/\Hn P H A.K F' v) ?_ ?_;·rcases cn with rfl|⟨az,hd⟩;(·refine G9s ?_;refine V2g ?_;refine U5o ?_;refine N2i ?_;refine Pv2 ?_;exact⟨trivial,Aju iW ⟨⟨iW,iW,iW,iW,iW,iW,iW⟩,w,T1,n1⟩⟩);refine G9s ?_;refine V2g ?_;refine Gm (S:=env Lv) (x:=o0 jz) iW Ac (B1 Ab) (A5 _ _) (λq=>by go_simp;exact Aid az) Al0 ?_;walk_nrm;refine Wsj ?_;refine G9s ?_;refine Wad ?_;refine A0 (T1.s.take (i:=0) (a:=⟨1,1,vy,[]⟩) iW PK.1) iW Ac iW Af ?_;rintro x dp⟨t,F1,rfl,S1,M1,ar,_,_⟩;obtain⟨C,V,rfl⟩:=Ye ar;refine Haw ?_;have T1:=T1.mvS S1 M1;have n1:=n1.mvS M1;refine G9s ?_;refine V2g ?_;refine A0 (T1.s.connD hd) iW Ac iW Af ?_;rintro x bq⟨rfl,J⟩;refine Haw ?_;have T2:=T1.kf J;have n2:=n1.kf J;refine G9s ?_;refine V2g ?_;refine A0 (T2.s.snap (Post:=Post) U bd (λbg p=>(Ju p).3) Q.4 hL hz) iW Ac iW Af ?_;rintro x Z3⟨σ',F3,hr,Z,M3⟩;rcases hr with⟨_,rfl,rfl⟩|⟨p,_⟩;rotate_left;(·rw[hd]at p;cases p);walk_nrm;refine T03 ?_;refine G9s ?_;(iterate 15 (refine V2g ?_));refine N2i ?_;refine Pv2 ?_;exact⟨trivial,Aju iW ⟨⟨iW,iW,iW,iW,iW,iW,iW⟩,_,T2.mvS Z M3,n2.mvS M3⟩⟩
 rintro d a v3⟨rfl,f3,rfl,Z,F3,I,n3⟩;simp only[Az];unfold LT;rw[Z.1,Z.2,Z.3,Z.4,Z.5,Z.6,Z.7];refine G9s ?_;refine Wad ?_;refine A0 (I.s.crash n3.h keep cm bf Aa Q.5 (λf hf=>by have:=hz f hf;omega)) iW Ac iW Af ?_;rintro k v4⟨D1,b7,E,ah,b8,rfl,R⟩;refine Haw ?_;have bx:(e.L.map (cr keep)).length<=900000:=by rw[bR];exact hL
 have bh:∀f∈e.L.map (cr keep),f.d.size<=1000000000000:=λf hf=>by obtain⟨h,hg,rfl⟩:=aZ.1 hf;rw[KW (Q.5 h hg)];have:=UA (keep:=keep) (Q.5 h hg);have:=hz h hg;omega
 refine G9s ?_;refine V2g ?_;refine A0 (Ael R.d R.h 0 Ad Ad Aa Q.6 (λf hf=>by have:=bh f hf;omega)) iW Ac iW Af ?_;rintro k v5⟨D2,H2,J,b9,dq,rfl,T⟩;rw[Q.7]at T;refine Haw ?_;have X:=(I.kf R.k).kf T.k;have ai:=R.d.kf T.k;have z3:=I.t.C.4;have cc:=R.k.4;have cd:=T.k.4;have cf:=R.4;have cg:=R.6;have br:=T.4;have bu:=T.6;have bw:=ltOf R.d.1;have cj:=ltOf R.d.2.1;have ck:=ltOf T.d.1;have dr:=ltOf T.d.2.1;have l:∀j,c j->j<iZ v3.1:=λj p=>I.t.C.W.lt p;have aw:∀j,v j->j<iZ v3.1:=λj p=>I.t.lt p;have cq:=I.t.D;have cu:=I.t.os;have bz:∀h,Cl ah=je h->h<iZ v4.1:=λh d=>R.d.lt d;have cw:∀h,Cl b9=je h->h<iZ v5.1:=λh d=>T.d.lt d;have bj:=R.7;have ba:=T.7;have ao:Dz (replay au t0):=RA Q.1.3 Q.2;have cx:Dz (g.3,g.4):=by have:=Q.4;rwa[O.1,O.2]at this
 clear I n3 hn b5 T1 n1;refine G9s ?_;refine V2g ?_;refine A0 (Aq0 (Post:=Post) U bd X.t.cx0 X.t.glob ai Aa Aa (λh d=>by have:=R.7 h d;omega) bx bh Q.1 Q.2) iW Ac iW Af ?_;rintro k v6⟨bb,rfl,c6,wm,sm,tb,mb,L',Ec,Hl,hP,gP,K⟩;refine Haw ?_;have K6:=K.g.k;have z6:=K6.4;have ax:∀j<iZ v3.1,¬(j=E∨Cl ah=je j):=λj hj p=>by rcases p with p|p;(·omega);·have:=bj j p;omega
 have bk:∀j,(j=E∨Cl ah=je j)->y<=j:=λj p=>by rcases p with p|p;(·omega);·have:=bj j p;omega
 have bm:∀j,iZ v4.1<=j->¬(j=E∨Cl ah=je j):=λj hj p=>by rcases p with p|p;(·omega);·have:=bz j p;omega
 have ae:VW Dy c v6:=X.t.C.W.ofK K6 (λj p=>ax j (l j p)) λ_ p=>p.elim;have D:=X.t.kx K6 ae (λj p=>ax j (aw j p)) (ax _ cq) (ax _ cu) bk;obtain⟨Fx,a8,c7⟩:=K.sv hP ao (λbg p=>Ju p) D.C D.glob Aa (λj p=>by have:=l j p;omega) Aa Aa Amo Amo (λh d=>⟨bk h (qx d),λp=>ax h (l h p) (qx d)⟩);have aj:=T.d.kx K6 (bm _ br) (bm _ bu) (λh d=>bm h (ba h d));refine G9s ?_;refine V2g ?_;refine A0 (Aq0 (Post:=Post) U bd D.cx0 D.glob aj Aa Aa (λh d=>by have:=ba h d;omega) bx bh Q.1 Q.2) iW Ac iW Af ?_;rintro k v7⟨P2,rfl,dt,du,dv,dw,dy,L2,dz,e0,cy,e1,N7⟩;refine Haw ?_;have K7:=N7.g.k;have z7:=K7.4;have L:∀j<iZ v4.1,¬(j=J∨Cl b9=je j):=λj hj p=>by rcases p with p|p;(·omega);·have:=ba j p;omega
 have c8:∀j,iZ v5.1<=j->¬(j=J∨Cl b9=je j):=λj hj p=>by rcases p with p|p;(·omega);·have:=cw j p;omega
 have bc:∀j,(j=J∨Cl b9=je j)->y<=j:=λj p=>by rcases p with p|p;(·omega);·have:=ba j p;omega
 have a7:VW Dy c v7:=D.C.W.ofK K7 (λj p=>L j (by have:=l j p;omega)) λ_ p=>p.elim;have aa:=D.kx K7 a7 (λj p=>L j (by have:=aw j p;omega)) (L _ Aa) (L _ Aa) bc;have bn:∀j,Fx j->iZ v3.1<=j:=λj p=>by rcases c7 j p with p|p|p;(·omega);(·have:=bj j p;omega);·omega
 have ad:=a8.kx K7 a7 (λj p=>(by rcases c7 j p with p|p|p;(·exact L j Aa);(·exact L j (bz j p));·exact c8 j p)) (L _ bw) (c8 _ gP) bc;obtain⟨Fy,Y7,_⟩:=N7.sv cy ao (λbg p=>Ju p) aa.C aa.glob Aa (λj p=>by have:=l j p;omega) Aa Aa Amo Amo (λh d=>⟨bc h (qx d),λp=>L h (by have:=l h p;omega) (qx d)⟩);have T7:GQ m F y c v7 bb b ⟨c6,D1,E,tb,mb,wm,sm⟩ B ⟨0,vy,(replay au t0).1,(replay au t0).2,[],-1,L'⟩ g [] [⟨1,1,vy,[]⟩] [] [[]] Fx v:=⟨ad,aa,λj a cz=>by have:=bn j a;have:=aw j cz;omega,λp=>by have:D1<iZ v3.1:=aw _ p;omega,λp=>by have:=bn _ p;omega,λp=>by have:=aw _ p;omega,λp=>by have:=bn _ p;omega,(X.8.trans (K6.mono bk)).trans (K7.mono bc)⟩;clear a8 D ad aa ae a7 X ai aj K;refine N2m ?_;iterate 14 (refine V2g ?_)
 refine N2i ?_;refine Pv2 ?_;refine G9s ?_;refine Wad ?_;refine A0 (T7.s.sameP Y7 ao (Z6.refl ao)) iW Ac iW Af ?_;rintro k v9⟨rfl,K9⟩;walk_nrm;refine T03 ?_;have T9:=T7.kf K9;refine G9s ?_;refine Wad ?_;have da:Ba prog jz Dy (Pq Post) 9 #[HZ bb,HZ b] v9 λx P=>(∃N:Bool,(N=jz∨∃c0,Amq e s c0/\au=i++[c0])/\x=o0 N)/\Ax v9 P iV:=by rcases Q.8 with d|d;(·subst d;refine Bf (T9.s.sameP T9.t ao (by rw[←O.1,←O.2];exact Q.3.symm)) ?_;rintro x P⟨rfl,p⟩;exact⟨⟨jz,zk iW,iW⟩,p⟩);·refine Bf (T9.s.sameA T9.t ao cx) ?_;rintro x P⟨⟨N,rfl⟩,p⟩;exact⟨⟨N,qx d,iW⟩,p⟩
 refine A0 da iW Ac iW Af ?_;rintro k e2⟨⟨N,hc,rfl⟩,db⟩;walk_nrm;refine T03 ?_;have o:=T9.kf db;refine Av ?_;refine Fe (Q:=λd a' P=>d=.normal/\∃al,a'=LT al/\(al 25=HZ bb/\al 29=o0 jz/\al 15=o0 jz)/\∃ak ay Y,GQ m F y c P bb b ⟨c6,D1,E,tb,mb,wm,sm⟩ B ⟨0,vy,(replay au t0).1,(replay au t0).2,[],-1,L'⟩ ak [] ay [] [[]] Fx Y) ?_ ?_;·cases N;(·rcases hc with p|⟨c0,⟨k,kind,n,rfl,bf,dc,h3,h0,_,rfl⟩,rfl⟩;(·cases p);refine G9s ?_;refine Ldr ?_;refine Gm (S:=env Lv) (x:=o0 jz) iW Ac (B1 Ab) (A5 _ _) (λq=>by go_simp;exact Aid (AR _)) Al0 ?_;walk_nrm;refine T03 ?_;refine N5y ?_;refine G9s ?_;refine Trb ?_;refine Jw (Gj (Xr k kind n)) iW Ac iW iW (B1 Ab) λw2 N cs fz z b2 ab a1 a6=>?_;have G:=o.kf z;have hF:=G.t.feed (Post:=Post) (i:=0) (a:=⟨1,1,vy,[]⟩) U iW iW iW iW (Ad1 (bB _)) Alq ok (x:=k) (kind:=kind) (n:=n) bf dc (o.t.bin z b2 ab a1 a6);simp only[Ke]at hF;walk_nrm;refine A0 hF iW Ac iW Ah ?_;rintro W P⟨ak,ay,Y,S,M,aq⟩;walk_nrm;refine K9h ?_;have bo:=G.mvT S M;have hl:=O.lost h3 h0 aq;refine Qit ?_;refine A0 (bo.s.sameP bo.t ao (by rw[hl];exact(Ajy Q.3).symm)) iW Ac iW Af ?_;rintro x O2⟨rfl,af⟩;walk_nrm;refine T03 ?_;exact⟨trivial,Aju iW ⟨⟨iW,iW,iW⟩,ak,ay,Y,bo.kf af⟩⟩);·refine G9s ?_;refine Trb ?_;(iterate 2 (refine E11 ?_));refine T03 ?_;refine Nvt ?_;exact⟨trivial,Aju iW ⟨⟨iW,iW,iW⟩,g,_,v,o⟩⟩
 rintro d a e3⟨rfl,e4,rfl,⟨dd,de,dg⟩,ak,ay,Y,G⟩;simp only[Az];unfold LT;rw[dd,de,dg];have c9:=λj=>G.s.ge (j:=j);have dh:=G.8;obtain⟨e5,fa,fc,se,p,dj,rfl⟩:=G.s;obtain rfl:se = []:=by simpa using dj
 refine G9s ?_;refine V2g ?_;refine A0 (OM p.H p.2 iW iW iW (zk ⟨iW,iW⟩) Ad (λbg hp=>(by cases hp))) iW Ac iW Af ?_;rintro x P⟨rfl,_,af,_⟩;refine Haw ?_;refine G9s ?_;iterate 9 (refine V2g ?_)
 refine K9h ?_;refine Ca ⟨qx iW,iW,iW,dh.trans (af.mono λj d=>?_)⟩;rcases d with d|d;·exact c9 j (zk (zk d))
 ·exact c9 j (zk (qx (qx (qx (qx (qx (qx d)))))))
end
def szB(m:Nat):Nat:=40000+m * 400
def WN(m):szB m+400=szB (m+1):=by unfold szB;omega
def Aow(m):40000<=szB m:=Nat.le_add_right _ _
def Aox(h:m<=800000):szB m<=1000000000:=aD (Nat.add_le_add_left (Nat.mul_le_mul_right 400 h) 40000) Ad
structure Sz(m)(σ:ST):Prop where
 L:iY σ.L<=m
 d:∀f∈σ.L,f.d.size<=szB m
section
variable {n:Nat} {G g d:ST} {b:Rq} {V:List AS} {u:Tr} {r:List Rc}
def Sz.mono(h:Sz m e):Sz (m+1) e:=⟨Nat.le_succ_of_le h.L,λf I=>aD (h.d f I) (by have:=WN m;omega)⟩
def Aau{z S}(H:NK z S):(⟨(Ei z S).toArray⟩:iF).size<=40000:=by have:=BW (n:=z) H.2 (H.ok Mv λp h=>(Ju h).3);show(Ei z S).toArray.size<=40000;rw[Ei];simp[Orch.be_length];omega
def Yu{a f}(h:f∈wo L a):=(Ga.1 h).1
def Sz.snap(a:Sz m e)(V:Dz (e.num,e.ns)){x}(h:GP e x G):Sz (m+1) G:=by obtain⟨_,_,rfl⟩|⟨_,d,i,p,S,Q,b,c,_,_,rfl⟩:=h;exact a.mono;have N:=Aau (V.sorted Q b).1;have K:=a.L;(have n:∀F:iF,ZD e.6 e.L F d p->iY p<=m+1/\∀f∈p,f∈e.L∨f.d=F:=λF j=>by have H:=Sn e.L Cp;have E:=Sn (wo e.L Cp) Fu;(have g:∀f:Fl,f∈wo (wo e.L Cp) Fu++[⟨Fu,F,F.size⟩]->f∈e.L∨f.d=F:=λf I=>by obtain I|I:=bC.1 I;exact zk (Yu (Yu I));grind);have R:=Sn (wo (wo e.L Cp) Fu++[(⟨Fu,F,F.size⟩:Fl)]) J6;(have U:∀s,(wo e.L Cp++[(⟨Cp,F,s⟩:Fl)]).length<=m+1/\∀f:Fl,f∈wo e.L Cp++[⟨Cp,F,s⟩]->f∈e.L∨f.d=F:=λs=>by refine⟨Aj,λf I=>?_⟩;obtain I|I:=bC.1 I;exact zk (Yu I);grind);rw[aH,gS]at R;obtain⟨_,_,rfl|rfl|rfl|rfl|rfl|rfl⟩|⟨_,rfl⟩:=j;grind;exact⟨Z,λf I=>zk (Yu I)⟩;exact U _;exact U _;grind;exact⟨Z,λf I=>g f (Yu I)⟩;exact⟨Z,λf I=>g f (Yu I)⟩);replace n:=n _ c.p;refine⟨n.1,λf I=>?_⟩;obtain C|C:=n.2 f I;have:=a.d f C;have:=WN m;omega;rw[C];exact aD N (Aow _)
def Sz.app{t K a}(h:BP L K a t)(c:iY L<=m)(y:∀f∈L,f.d.size<=szB m)(N:a.size<=400):iY t<=m+1/\∀f∈t,f.d.size<=szB (m+1):=by have b:=WN m;exact Z06
def Sz.sync{t K}(h:Zu L K t)(c:iY L<=m)(y:∀f∈L,f.d.size<=szB m):iY t<=m/\∀f∈t,f.d.size<=szB m:=by obtain⟨_,rfl⟩|⟨i,f,I,_,rfl⟩:=h;exact⟨c,y⟩;grind
def Sz.work(h:Sz m e)(W:Fc b i e l G V)(Q:b.kind<=6->Jr D8 b.p)(y:b.kind<=3->b.d.size<=40):Sz (m+1) G:=by rw[Fc]at W;split at W;rename_i T;obtain⟨_,rfl,_⟩|⟨M,d,g,p,Y,D⟩:=W;exact h.mono;(have n:iY p<=m+1/\∀f∈p,f.d.size<=szB (m+1):=by obtain⟨_,_,_,rfl⟩|⟨_,t,c,C⟩:=Y;exact⟨h.mono.L,h.mono.d⟩;have a:=Sz.app c h.L h.d (JE _ _ (Q Z).2 (y T) Ad);obtain⟨_,_,_,rfl⟩|⟨_,_,_,H⟩:=C;exact a;exact Sz.sync H a.1 a.2);obtain⟨_,rfl,_⟩|⟨_,rfl,_⟩:=D;exact⟨n.1,n.2⟩;exact⟨n.1,n.2⟩;split at W;obtain⟨rfl,_⟩:=W;exact⟨h.mono.L,h.mono.d⟩;obtain⟨rfl,_⟩:=W;exact h.mono
structure HI(n e g):Prop where
 eq:Eqv e g
 dm:∃u r,Dm D8 e u r
 dn:e.down=vy
 sz:Sz (2 * n) e
 it:Zy n g
structure HS(n e g):Prop where
 eq:Eqv e g
 dm:∃u r,Dm D8 e u r
 dn:e.down=vy∨(e.down=jz/\e.left=0)
 sz:Sz (2 * n+1) e
 it:Zy n g
structure HE(e g s):Prop where
 eq:Eqv e g
 lo:Tn e s
 ok:BL g
 L:iY e.L<=900000
 d:∀f∈e.L,f.d.size<=1000000000000
def Sz.le(h:Sz m e)(L:m<=800000):iY e.L<=900000/\∀f∈e.L,f.d.size<=1000000000000:=⟨by have:=h.L;omega,λf I=>by have:=h.d f I;have:=Aox L;omega⟩
def HI.hs(h:HI n e g):HS n e g:=⟨h.eq,h.2,zk h.dn,h.sz.mono,h.it⟩
def HI.tr(h:HI n e g):=let⟨_,_,D⟩:=h.2;D.tr
def HI.snap(h:HI n e g){x}(Y:GP e x G):HS n G g:=by have y:=let⟨_,_,D⟩:=h.2;D.snap Y;have N:=h.4.snap h.tr Y;have ⟨S,L,a,s,t⟩:=h.1;obtain⟨_,_,rfl⟩|⟨_,b,c,p,d,_,_,f,_,_,rfl⟩:=Y;exact⟨h.1,y,zk h.3,N,h.5⟩;refine⟨⟨S,L,a,s,t⟩,y,?_,N,h.5⟩;cases b;exact qx ⟨T,f.2 T⟩;exact zk T
def HS.ok(h:HS n e g)(y:e.down=vy)(z:n<=300000):BL e:=by have C:=h.4.L;have J:=h.5.2;have T:=h.1.1;exact⟨y,Z,λf I=>aD ((h.4.le Z).2 f I) Ad,Z⟩
def HS.lost(h:HS n e g)(y:e.down=jz)(z:n<=300000)(b):e.left=0/\HE e g (Gj b):=by have ⟨u,r,D⟩:=h.2;refine⟨h.3.elim (λa=>Aj) And.right,h.1,⟨u,r,qx ⟨AR _,y⟩,zk D.dx⟩,h.5.ok Z,(h.4.le Z).1,(h.4.le Z).2⟩
def HS.both(h:HS n e g)(y:e.down=vy){x kind z}(j:1<=kind)(M:kind<=7)(v:n<=300000)(W:Fc (Ts x kind z) 0 e [⟨1,1,vy,[]⟩] G V)(J:G.down=vy)(Y:Fc (Ts x kind z) 0 g [⟨1,1,vy,[]⟩] d q)(k:Uh g.num g.ns)(S:TrN D8 g.ns):HI (n+1) G d/\∃s,20<=iY s/\iY s<=2000/\V = [⟨1,1,vy,s⟩]/\q = [⟨1,1,vy,s⟩]:=by
 have R:=BO x j M z;obtain⟨u,r,D⟩:=h.2;have I:=h.5.2;have l:=h.1.1;have E:=(h.1.work W Y).2.2 y J;have N:=h.4.work W R.p R.d;have m:=SL Y h.5 Adl R.p R.d;refine⟨⟨E.1,?_,J,N,m⟩,?_⟩;obtain⟨_,A,h⟩|⟨h,_⟩:=D.work Adl R.p R.d Z y W;exact⟨u,A,h⟩;grind;obtain⟨c,o,b⟩:=XC Y h.5.6 (a:=⟨1,1,vy,[]⟩) T;have f:=XB Y k S Adl R.p;obtain⟨B,w,p⟩:=f.2 0 ⟨1,1,vy,[]⟩ T;have t:iY q=1:=f.1;have i:q = [⟨1,1,vy,c⟩]:=by match q,t,b with|[a],_,b=>simp at b;rw[b]
 have H:B=c:=by grind
 exact⟨c,o,H▸p,by rw[E.2,i],i⟩
theorem HS.fell(h:HS n e g)(y:e.down=vy){x}(c:1<=kind)(M:kind<=7)(j:n<=300000)(W:Fc (Ts x kind z) 0 e [⟨1,1,vy,[]⟩] G V)(a:G.down=jz):G.left=0/\V = [⟨1,1,vy,[]⟩]/\HE G g (Gj (Xr x kind z)):=by have R:=BO x c M z;obtain⟨u,r,D⟩:=h.2;have I:=h.5.2;have l:=h.1.1;have E:=h.4.work W R.p R.d;(have X:G.5=e.5:=by rw[Fc]at W;split at W;obtain⟨_,rfl,_⟩|⟨_,k,m,p,_,⟨_,rfl,_⟩|⟨_,rfl,_⟩⟩:=W;rfl;rfl;grind;grind);obtain⟨h1,_⟩|⟨_,t,v,w,o,q,s,A,J⟩:=D.work Adl R.p R.d Z y W;grind;obtain⟨F,b,d,f,i⟩:=h.1;refine⟨w,s,⟨by rw[o,F],by rw[q,b],by rw[X,d],f,i⟩,⟨u,r,qx ⟨AR _,a⟩,?_⟩,h.5.ok Z,(E.le Z).1,(E.le Z).2⟩;obtain J|J:=J;exact zk J.dx;refine qx ⟨ED (Ts x kind z) e.3,⟨x,kind,z,T,c,M,t,q▸v,A,by rw[o]⟩,J,D.2,D.3,o▸q▸D.5,o▸q▸D.6⟩
def HI.he(h:HI n e g)(z:n<=300000):HE e g ⟨#[]⟩:=by have ⟨u,r,D⟩:=h.2;exact⟨h.1,⟨u,r,zk T,zk D.dx⟩,h.5.ok Z,(h.4.le Z).1,(h.4.le Z).2⟩
end
noncomputable def HT(f:iL):Act:={ tmps:=#[f 0,f 1,f 2,f 3,f 4,f 5,f 6,f 7,f 8,f 9,f 10,f 11,f 12,f 13,f 14,f 15,f 16,f 17,f 18,f 19,f 20,f 21,f 22,f 23,f 24,f 25,f 26,f 27,f 28,f 29,f 30,f 31,f 32,f 33,f 34,f 35,f 36,f 37,f 38,f 39,f 40,f 41,f 42,f 43,f 44,f 45,f 46,f 47,f 48,f 49,f 50,f 51,f 52,f 53,f 54,f 55,f 56,f 57,f 58,f 59,f 60,f 61,f 62,f 63,f 64,f 65,f 66,f 67,f 68,f 69,f 70,f 71,f 72,f 73,f 74,f 75,f 76,f 77,f 78,f 79,f 80,f 81,f 82,f 83,f 84,f 85,f 86,f 87,f 88,f 89,f 90,f 91,f 92,f 93,f 94,f 95,f 96,f 97,f 98,f 99,f 100,f 101,f 102,f 103,f 104,f 105,f 106,f 107,f 108,f 109,f 110,f 111,f 112,f 113,f 114,f 115,f 116,f 117,f 118,f 119,f 120,f 121,f 122,f 123,f 124,f 125,f 126,f 127,f 128,f 129,f 130,f 131,f 132,f 133,f 134,f 135,f 136,f 137,f 138,f 139,f 140,f 141,f 142,f 143,f 144,f 145,f 146,f 147,f 148,f 149,f 150,f 151,f 152,f 153,f 154,f 155,f 156,f 157,f 158,f 159,f 160,f 161,f 162,f 163],defers:=[] }
def OU{a}(h:a=HT λj=>a.tmps.getD j re)(Q:P λj=>a.tmps.getD j re):∃f,a=HT f/\P f:=⟨_,h,Q⟩
noncomputable def rH:Nat->Code
 |0=>Tryz.f3.body.getD .skip
 |n+1=>Code.two (rH n)
noncomputable def stH(n:Nat):Code:=Code.one (rH n)
structure SlG(az steps snap keep D H os ot)(f:iL):Prop where
 h0:f 0=az
 h1:f 1=iS steps
 h2:f 2=iS snap
 h3:f 3=iS keep
 h9:f 9=HZ D
 h10:f 10=HZ H
 h13:f 13=HZ os
 h14:f 14=iS 1
 h15:f 15=HZ ot
 h16:f 16=iS 1
def ak0:Ak:=⟨0,0,-1,iU,0,vy⟩
structure SlH(az steps snap keep D H os ot)(s:iF)(i:Nat)(f):Prop where
 g:SlG az steps snap keep D H os ot f
 h21:f 21=zx s
 h22:f 22=iS i
section
variable {Y:PA y F}
def As7{c}{Q:Exit->Act->qi->Prop}{P:(Nat->S)->Prop}{a}(h:a=HT λj=>a.tmps.getD j re)(b:P λj=>a.tmps.getD j re)(k:∀f,P f->Kk prog jz Dy (Pq Y) 3 c Q (HT f) u):Kk prog jz Dy (Pq Y) 3 c Q a u:=h▸k _ b
def Al7(c n)(M:Ov c)(z:0<n)(p:n<=9223372036854775807):Ba prog jz Dy (Pq Y) 12 #[iS c,iS n] u λx O=>x=iS (Ot c n)/\Ax u O iV:=Bf (Ge (f:=12) Ad (X:=λ_=>False) (R:=λy _=>y=iS (Ot c n)) λw W _=>(R7 w c n M z p).mono λe B h=>⟨⟨_,h.1,T⟩,h.2▸⟨T,T,T,aA _,λ_ _ _=>rfl⟩⟩) λy O h=>⟨by obtain⟨_,_,_,_,h⟩:=h;exact h,h.1⟩
end
def LpS(u0:qi)(Tabs:iI)(gN:Nat)(Bs:iG)(D H os ot i:Nat)(s:iF)(u:qi):Prop:=
 ∃A B σ τ Fs Ft,A.D=D/\GQ u0 Tabs gN Bs u os ot A B σ τ [⟨1,1,vy,[]⟩] [⟨1,1,vy,[]⟩] [[]] [[]] Fs Ft/\Hn u H A.K Fs Ft/\((s=iU/\HI (i+1) σ τ)∨(s≠iU/\HE σ τ s))
section
variable {m:qi} {Post:PA y F} {f:iL} {snap:Int} {X:iF} {L:Nat} {g:ST} {w v:iG} {x:Ak}
def FdS(m:qi)(F:iI)(y:Nat)(c:iG)(H os b i:Nat)(A B:SA)(e g:ST)(v:iG)(x:Ak)(kind:Int)(z:Int)(O:qi):Prop:=
 (z=0/\∃σ2 l2 Fs2,Fc (Ts x kind i) 0 e [⟨1,1,vy,[]⟩] σ2 l2/\e.down=vy/\σ2.down=vy/\GQ m F y c O os b A B σ2 g l2 [⟨1,1,vy,[]⟩] [[]] [[]] Fs2 v/\Hn O H A.K Fs2 v) ∨
 (z=18/\∃σ2 Fs2,GQ m F y c O os b A B σ2 g [⟨1,1,vy,[]⟩] [⟨1,1,vy,[]⟩] [[]] [[]] Fs2 v/\Hn O H A.K Fs2 v/\σ2.left=0/\HE σ2 g (Gj (Xr x kind i)))
def GQ.feedH(U:Hq D8 F)(T:GQ m F y c u os b A B e g [⟨1,1,vy,[]⟩] [⟨1,1,vy,[]⟩] [[]] [[]] w v)(s:Hn u H A.K w v)(h:HS (i+1) e g)(P:i<=250000)(Q:1<=kind)(k:kind<=7){E fz}(J:Ax u E iV)(b2:E.1[iZ u.1]?=je (pf cs 5 fz))(t:I9 cs)(C:(Gj (Xr x kind i)).size<=d)(D:Bytes E u.1.size 0 (Gj (Xr x kind i)).data.toList):Ba prog jz Dy (Pq Post) 7 #[HZ os,iS 1,xh (je (iQ u.1.size)) (Gj (Xr x kind i)).data.toList.length d] E λj O=>∃z,j=iS z/\FdS m F y c H os b i A B e g v x kind z O:=by have q:=T.kf J;have l:=s.kf J;by_cases f:e.2=jz;have n:=h.lost f Z (Xr x kind i);apply Bf (q.s.feedD (i:=0) (a:=⟨1,1,vy,[]⟩) iW PK.1 f _);rintro j O⟨rfl,K⟩;exact⟨18,iW,qx ⟨iW,e,w,q.kf K,l.kf K,n.1,n.2⟩⟩;(have f:e.2=vy:=by simpa using f);have X:=q.s.feedA (Post:=Post) (i:=0) U iW iW iW iW (Ad1 (bB _)) (λa S=>Aj) (h.ok f Z) (x:=x) (kind:=kind) (n:=i) Q k (T.s.bin J b2 t C D);apply Bf X;rintro j O⟨G,V,R,rfl,N,M,W⟩;have o:=q.mvS N M;have p:=l.mvS M;refine⟨_,iW,?_⟩;cases r:G.2;exact zk ⟨by simp[CI],G,V,R,W,f,r,o,p⟩;obtain⟨I,rfl,L⟩:=h.fell f Q k Z W r;exact qx ⟨by simp[CI],G,R,o,p,I,L⟩
def Arn(U:Hq D8 F)(au:∀q,F q->E8 q)(S:SlG (xh j L K) h snap keep D H os b f)(ad:f 21=zx iU){d}(hy:SS Post j d)(hn:iY d=L)(hc:L<=K)(hb:L<=250000)(hs:Ov snap)(Y:LpS m F y c D H os b 0 iU u):Kk prog jz Dy (Pq Post) 3 (stH 16) (λQ R O=>Q=.normal/\∃s,(∃r,R=HT r/\SlG (xh j L K) h snap keep D H os b r/\r 21=zx s)/\∃i≤L,LpS m F y c D H os b i s O) (HT f) u:=by
 unfold HT;simp only[stH,rH,Tryz.f3,bT,Code.one,Code.two];refine G9s ?_;refine T03 ?_;refine D9 ?_;refine Pk (n:=L) (I:=λt a q=>∃i s,t+i=L/\(∃r,a=HT r/\SlH (xh j L K) h snap keep D H os b s i r)/\LpS m F y c D H os b i s q) ?_ ?_;case refine_2=>exact⟨0,_,Aa,OU iW ⟨⟨S.1,S.2,S.3,S.4,S.5,S.6,S.7,S.8,S.9,S.10⟩,ad,iW⟩,Y⟩
 clear S ad Y;rintro t a q⟨i,s,bf,⟨f,rfl,S⟩,Y⟩;have h0:=S.g.1;have av:=S.3;have ad:=S.2;unfold HT;rw[h0,ad,av];by_cases hi:i<L;case neg=>obtain rfl:i=L:=Aa;refine N2m ?_;refine Trb ?_;refine U5o ?_;refine V2g ?_;(iterate 2 (refine E11 ?_));refine T03 ?_;refine Jcf ?_;exact⟨trivial,s,OU iW ⟨⟨iW,S.g.2,S.g.3,S.g.4,S.g.5,S.g.6,S.g.7,S.g.8,S.g.9,S.g.10⟩,iW⟩,i,aA _,Y⟩
 case pos=>have bg:(i:Int)<(L:Int):=Aa;(have aw:IntKind.i64.wrap ((i:Int)+1)=((i+1:Nat):Int):=by simp[IntKind.wrap,IntKind.bits,IntKind.signed];omega);by_cases az:s=iU;(case neg=>refine N2m ?_;refine Trb ?_;refine Gsw ?_;refine Wad ?_;refine Gm (S:=env Lv) (x:=o0 vy) iW Ac (B1 Ab) (A5 _ _) (λq=>by go_simp;exact Aid az) Al0 ?_;walk_nrm;refine T03 ?_;refine Jcf ?_;exact⟨trivial,s,OU iW ⟨⟨iW,S.g.2,S.g.3,S.g.4,S.g.5,S.g.6,S.g.7,S.g.8,S.g.9,S.g.10⟩,iW⟩,i,Aa,Y⟩);case pos=>subst az;refine N2m ?_;refine Trb ?_;refine Gsw ?_;refine Wad ?_;refine Gsw ?_;refine T03 ?_;refine Bsk ?_;obtain⟨A,B,e,g,w,v,af,ah,hh,⟨_,hI⟩|⟨Z,_⟩⟩:=Y;rotate_left;(·exact absurd iW Z);refine Fe (Q:=λQ R O=>(Q=.normal∨Q=.exit 1)/\∃s',(∃r,R=HT r/\SlH (xh j L K) h snap keep D H os b s' i r)/\LpS m F y c D H os b (i+1) s' O) ?_ ?_;rotate_left;(·rintro Q R w2⟨he,s2,⟨f2,rfl,n⟩,L2⟩;rcases he with rfl|rfl;all_goals simp only[As,Az,bV];unfold HT;rw[n.3];refine Mwc ?_;refine Cj (iS (IntKind.i64.wrap ((i:Int)+1))) ?_;walk_nrm;rw[aw];refine T03 ?_;exact⟨L - (i+1),Aa,i+1,s2,Aa,OU iW ⟨⟨n.g.1,n.g.2,n.g.3,n.g.4,n.g.5,n.g.6,n.g.7,n.g.8,n.g.9,n.g.10⟩,n.2,iW⟩,L2⟩);obtain⟨x,hx⟩:∃x,d[i]?=je x:=⟨_,aG Aa⟩;obtain⟨ai,off,rfl,ax,X⟩:=hy i x hx;have bh:(L:Int)<=(K:Int):=Aa;obtain⟨q0,q1⟩:=R8 x.k (n:=7) Ad;have c1:1<=1+Ot x.k 7:=Aa;have c7:1+Ot x.k 7<=7:=Aa;rw[S.g.3,S.g.7,S.g.8,S.g.9,S.g.10,S.g.5];refine G9s ?_;refine Wad ?_;refine Cj (vp (je ⟨ai,off+i * 6,zt⟩)) ?_;walk_nrm;refine Agh ax iW Ac (B1 Ab) iW Ac ?_;walk_nrm;refine V2g ?_;refine A0 (Ge (f:=13) (args:=#[x.val,iS i]) Ad (X:=λ_=>False) (R:=λW _=>W=zx (Gj (Xr x (1+Ot x.k 7) i))) λq hw hz=>(VU q x.k x.a x.b x.v x.s x.w i X.k X.a X.b X.v X.s Aa Aa).mono λQ w' Z=>⟨⟨_,Z.1,iW⟩,Bc Z.2⟩) iW Ac iW Af ?_;rintro W E⟨p,_,_,_,rfl⟩;generalize 1+Ot x.k 7=kind at c1 c7⊢;walk_nrm;refine T03 ?_;refine Av ?_;have T0:=ah.kf p;have n0:=hh.kf p;(have hw:IntKind.i64.wrap ((i:Int)+2)=(i:Int)+2:=by simp[IntKind.wrap,IntKind.bits,IntKind.signed];omega);refine Fe (Q:=λQ R O=>Q=.normal/\∃r,R=HT r/\(SlH (xh (je (iR ai off)) L K) h snap keep D H os b iU i r/\r 23=zx (Gj (Xr x kind i)))/\∃σ1 ae,GQ m F y c O os b A B σ1 g [⟨1,1,vy,[]⟩] [⟨1,1,vy,[]⟩] [[]] [[]] ae v/\Hn O H A.K ae v/\HS (i+1) σ1 g) ?_ ?_;(·refine G9s ?_;refine Wad ?_;refine Cj (iS ((i:Int)+2)) ?_;walk_nrm;refine A0 (Al7 snap ((i:Int)+2) hs Aa Aa) iW Ac iW Af ?_;rintro _ q⟨rfl,C⟩;walk_nrm;generalize Ot snap ((i:Int)+2)=aj;by_cases hz:aj=1;(·subst hz;refine T03 ?_;refine N5y ?_;refine Mwc ?_;have ak:=hI.4.le Aa;refine A0 ((T0.kf C).s.snap (Post:=Post) U au (λbj Z=>(Ju Z).3) hI.tr ak.1 ak.2) iW Ac iW Af ?_;rintro W O⟨σ',F',hr,S',al⟩;walk_nrm;refine K9h ?_;exact⟨trivial,OU iW ⟨⟨⟨⟨iW,S.g.2,iW,S.g.4,iW,S.g.6,iW,iW,iW,iW⟩,iW,iW⟩,iW⟩,σ',F',(T0.kf C).mvS S' al,(n0.kf C).mvS al,hI.snap hr⟩⟩);·refine U5o ?_;refine N2i ?_;refine Pv2 ?_;exact⟨trivial,OU iW ⟨⟨⟨⟨iW,S.g.2,iW,S.g.4,iW,S.g.6,iW,iW,iW,iW⟩,iW,iW⟩,iW⟩,e,w,T0.kf C,n0.kf C,hI.hs⟩⟩);rintro Q R v1⟨rfl,f1,rfl,⟨l,ay⟩,σ1,ae,T1,M,h1⟩;simp only[Az];unfold HT;rw[l.g.5,l.g.7,l.g.8,l.g.9,l.g.10,l.2,ay];clear S ah hh hI T0 n0;refine G9s ?_;refine Trb ?_;refine Jw (Gj (Xr x kind i)) iW Ac iW iW (B1 Ab) λw2 P cs fz K2 b2 b5 b6 b7=>?_;walk_nrm;refine A0 (T1.feedH (Post:=Post) U M h1 Aa c1 c7 K2 b2 b5 b6 b7) iW Ac iW Ah ?_;rintro W v2⟨aj,rfl,hz⟩;walk_nrm;refine T03 ?_;refine Av ?_;rcases hz with⟨rfl,σ2,l2,ao,hw,b8,b9,o,n2⟩|⟨rfl,σ2,ao,o,n2,hl,hE⟩;rotate_left;(·refine G9s ?_;refine Wad ?_;refine Wsj ?_;refine G9s ?_;refine Wad ?_;refine K9h ?_;refine G9s ?_;refine V2g ?_;subst af;refine A0 o.s.stopped iW Ac iW Af ?_;rintro W O⟨rfl,C⟩;rw[hl];walk_nrm;refine T03 ?_;refine N2m ?_;(iterate 6 (refine V2g ?_));refine N2i ?_;refine Pv2 ?_;refine Kd ?_;simp only[Az,As];exact⟨qx trivial,_,OU iW ⟨⟨l.g.1,l.g.2,l.g.3,l.g.4,iW,l.g.6,iW,iW,iW,iW⟩,iW,l.3⟩,A,B,σ2,g,ao,v,iW,o.kf C,n2.kf C,qx ⟨AR _,hE⟩⟩);refine G9s ?_;refine Wad ?_;refine N2i ?_;refine Pv2 ?_;refine G9s ?_;refine Trb ?_;refine Jw (Gj (Xr x kind i)) iW Ac iW iW (B1 Ab) λa8 P cs fz z aa ab a1 a6=>?_;have G:=o.kf z;have hF:=G.t.feed (Post:=Post) (i:=0) (a:=⟨1,1,vy,[]⟩) U iW iW iW iW (Ad1 (bB _)) Alq (h1.5.ok Aa) (x:=x) (kind:=kind) (n:=i) c1 c7 (o.t.bin z aa ab a1 a6);simp only[Ke]at hF;walk_nrm;refine A0 hF iW Ac iW Ah ?_;rintro W v4⟨τ2,k2,bk,S4,M4,ba⟩;have I:=G.mvT S4 M4;have n4:=(n2.kf z).mvT M4;obtain⟨bb,V,bm,bn,rfl,rfl⟩:=h1.both b8 c1 c7 Aa hw b9 ba T1.t.tr.1 T1.t.tr.2;clear hF o G S4 M4 n2 T1 M;walk_nrm;refine K9h ?_;refine G9s ?_;refine Wad ?_;refine A0 (I.s.take (i:=0) (a:=⟨1,1,vy,V⟩) iW PK.1) iW Ac iW Af ?_;rintro W c9⟨N,bc,rfl,S5,M5,p5,o5,_⟩;have T5:=I.mvS S5 M5;have n5:=n4.mvS M5;have o5:=λT a7=>I.3 T (o5 T a7);refine Haw ?_;refine G9s ?_;refine Wad ?_;refine A0 (T5.t.take (i:=0) (a:=⟨1,1,vy,V⟩) iW PK.1) iW Ac iW Af ?_;rintro W v6⟨c6,F6,rfl,S6,M6,ar,_,_⟩;have T6:=T5.mvT S6 M6;have n6:=n5.mvT M6;have p5:=Eb p5 λT a7=>M6.K.5 T (Dj p5 a7) (o5 T a7);obtain⟨a5,m5,rfl⟩:=Ye p5;obtain⟨bd,m6,rfl⟩:=Ye ar;refine Haw ?_;clear I T5 n4 n5 S5 M5 S6 M6;generalize aq:iY V=k at *;have bo:(20:Int)<=(k:Int):=Aa;refine G9s ?_;refine V2g ?_;refine Wm (xh a5 k m5) V (by rwa[aq]) iW Ac (B1 Ab) iW Ac ?_;intro bq C;walk_nrm;refine V2g ?_;refine Wm (xh bd k m6) V (by rw[aq];exact Eb ar λT a7=>C.5 T (Dj ar a7) id) iW Ac (B1 Ab) iW Ac ?_;intro Z2 J;walk_nrm;refine U5o ?_;refine Trb ?_;refine U5o ?_;refine T03 ?_;refine Nvt ?_;exact⟨zk trivial,_,OU iW ⟨⟨l.g.1,l.g.2,l.g.3,l.g.4,iW,l.g.6,iW,iW,iW,iW⟩,iW,l.3⟩,A,B,σ2,τ2,_,_,af,(T6.kf C).kf J,(n6.kf C).kf J,zk ⟨iW,bb⟩⟩
end
def Tz:HI 0 { σ0 with last:=1 } { σ0 with last:=1 }:=
 ⟨⟨T,T,T,T,T⟩,⟨tr0,[],di0,SF,λ_ h=>(nomatch h),λ_ h=>(nomatch h),Z6.refl SF,SF⟩,T,⟨aA _,λ_ h=>(nomatch h)⟩,Aj2 1⟩
def Aax:Du (Ts ak0 1 1).kind σ0.ns (Ts ak0 1 1).p (Ts ak0 1 1).d (Ts ak0 1 1).ver=0:=by decide +kernel
def Aay(h:Fc (Ts ak0 1 1) 0 { σ0 with last:=1 } k a q):a.num=1:=by rw[Fc]at h;obtain⟨h,_⟩|⟨_,b,c,p,Y,h⟩:=h;exact absurd Aax h;obtain⟨rfl,_⟩:=Yj Y;obtain⟨h,_⟩|⟨_,rfl,_⟩:=h;cases h;rfl
def HI.stop{n b}(h:HI n a b)(z):HI n { a with left:=z } b:=by have ⟨u,r,D⟩:=h.2;exact⟨⟨h.1.1,h.1.2,h.1.3,h.1.4,h.1.5⟩,⟨u,r,D.1,D.2,D.3,D.4,D.5,D.6⟩,h.3,⟨h.4.L,h.4.d⟩,h.5⟩
section
variable {Post:PA y F} {f:iL} {L cA:Nat} {snap:Int} {r:iC} {v:iG}
def Sv.kd(h:Sv F y c u d A e l r v):=let⟨_,_,_,_,h,_⟩:=h;h.H.F.1.hD
def Sv.tree{Stop:Goroutine->qi->Prop}(h:Sv F y c u d A e l r v)(a:0<iY e.ns):Ba prog jz Dy Stop 10 #[HZ d] u λx O=>∃b,x=.tuple #[iS e.num,b]/\Ax u O iV:=by have ⟨_,_,_,_,h,_⟩:=h;apply Bf (SH h a);grind
def Aa7(U:Hq D8 F)(r:∀w,F w->E8 w)(C:Cx F y Dy iV u)(cx:y=iZ u.1)(bj:∀i<8,∃N Q fz,u.1[i]?=je (pf N Q fz)){b}(hA:SS Post j b)(bk:iY b=L)(bm:L<=cA)(hb:L<=250000)(bn:Ov h)(bo:Ov snap)(ba:Ov keep)(h0:f 0=xh j L cA)(h1:f 1=iS h)(h2:f 2=iS snap)(h3:f 3=iS keep):Kk prog jz Dy (Pq Post) 3 (rH 0) (λQ a' O=>Q=.ret/\a'.defers = []/\a'.tmps.getD 8 re=o0 jz/\Ax u O (λd=>y<=d)) (HT f) u:=by
 rw[HT];simp[rH,Tryz.f3,bT];rw[h0,h1,h2,h3];refine G9s ?_;refine T03 ?_;refine G9s ?_;refine A0 Al2 iW Ac iW Af ?_;rintro x v1⟨D1,H1,K1,rfl,R⟩;refine Haw ?_;refine G9s ?_;refine A0 Al2 iW Ac iW Af ?_;rintro x v2⟨D2,H2,z,rfl,T⟩;refine Haw ?_;have ah:Ax u v2 iV:=R.k.trans T.k;have av:Cx F y Dy iV v2:=C.kx ah (C.W.ofK ah (λ_ _ Z=>Z) λ_ Z=>Z.elim) λ_ Z=>Z.elim;have aw:=J3 bj ah λ_ Z=>Z.elim;have cc:=R.k.4;have cd:=T.k.4;have cf:=R.4;have cg:=R.6;have br:=R.5;have cy:=T.4;have bu:=T.6;have bw:=ltOf R.d.1;have cj:=ltOf R.d.2.1;have ck:=ltOf R.h;have cz:=ltOf T.d.1;have da:=ltOf T.d.2.1;have J4:=R.ne;have bx:=R.d.ne;have al:=R.d.kf T.k;have Y:=T.d;have X:=T.k.get R.h id;refine G9s ?_;refine V2g ?_;refine A0 (Al3 (Post:=Post) U r av aw al Aa Aa id id) iW Ac iW Af ?_;rintro x v3⟨os,rfl,A,w,ar,e,hD,a8,db,Hc,q,nD⟩;refine Haw ?_;have z3:=q.4;have t:=Y.kx q Aa Aa (λdc Q=>by cases Q);have ai:=q.get X J4.2.1;have K:=q.get al.1 (dH bx.1);have bz:A.K=K1:=by have:=e.kd;grind
 refine G9s ?_;refine V2g ?_;refine A0 (Al3 (Post:=Post) U r e.C e.glob t Aa Aa (by rintro(Z|Z);exact Z;omega) (by rintro(Z|Z);exact Z;omega)) iW Ac iW Af ?_;rintro x v4⟨ot,rfl,B,v,b7,au,c6,D,dd,de,ao,dg⟩;refine Haw ?_;have aj:=ao.get ai Aa;have a7:∀d,w d->d<iZ v3.1:=λd l=>e.lt l;have dh:=e.os;have dj:=e.D;have ad:=au.C.W;have ax:VW Dy (λd=>False∨d=ar) v4:=⟨λd l=>ad.1 d (zk l),λ_ Z=>Z.elim,λ_ Z=>Z.elim,λ_ Z=>Z⟩;have ae:∀d,w d->¬d=z:=λd l Q=>by obtain Z|Z:=a8 d l<;>omega
 have bb:=e.kx ao ax ae (by rw[hD];omega) Aa λd l=>Aa;have ag:Sv F y (λd=>(False∨d=ar)∨d=b7) v4 os A { σ0 with last:=1 } [⟨1,1,vy,[]⟩] [[]] w:=bb.grow ad (λd Z=>zk Z) λd Z=>Z.imp id λQ=>⟨Aa,λl=>by have:=a7 d l;omega,Aa⟩;have aa:∀d,w d->¬v d:=λd hs ht=>by have:=a7 d hs;obtain Z|Z:=D d ht;exact ae d hs Z;omega
 have m:GQ u F y (λd=>(False∨d=ar)∨d=b7) v4 os ot A B { σ0 with last:=1 } { σ0 with last:=1 } [⟨1,1,vy,[]⟩] [⟨1,1,vy,[]⟩] [[]] [[]] w v:=by refine⟨ag,au,aa,λZ=>?_,λZ=>?_,λZ=>?_,λZ=>?_,(((ah.mono λ_ Z=>Z.elim).trans (q.mono λd Z=>Aa)).trans (ao.mono λd Z=>Aa))⟩;obtain Z|Z:=D _ Z<;>omega;rw[c6]at Z;obtain Z|Z:=a8 _ Z<;>omega;obtain Z|Z:=D _ Z<;>omega;have:=a7 _ Z;omega
 have n4:Hn v4 H1 A.K w v:=by rw[bz];refine⟨aj,λZ=>?_,λZ=>?_⟩;obtain Z|Z:=a8 _ Z;exact J4.2.1 Z;omega;obtain Z|Z:=D _ Z<;>omega
 generalize (λd=>(False∨d=ar)∨d=b7)=c at m;clear e bb ag t q ao ax av aw ah R T al Y au a8 D ad aa ae a7 X ai aj K;refine N2m ?_;iterate 6 (refine V2g ?_)
 refine N2i ?_;refine Pv2 ?_;refine G9s ?_;refine Cj (.agg #[iS 0,iS 0,iS (-1),zx iU,iS 0,o0 vy]) ?_;walk_nrm;refine A0 (Ge (f:=6) (args:=#[.agg #[iS 0,iS 0,iS (-1),zx iU,iS 0,o0 vy],iS 1,iS 1]) Ad (X:=λ_=>False) (R:=λW _=>W=zx (Gj (Xr ak0 1 1))) λw hw hz=>(XM w 0 0 (-1) 0 iU vy 1 1 Aiv Aiv Aiv Aiv Ad Ad Ad).mono λQ w' Z=>⟨⟨_,Z.1,iW⟩,Bc Z.2⟩) iW Ac iW Af ?_;rintro W E⟨p,_,_,_,rfl⟩;have T6:=m.kf p;have n6:=n4.kf p;walk_nrm;refine T03 ?_;refine G9s ?_;refine Trb ?_;refine Jw (Gj (Xr ak0 1 1)) iW Ac iW iW (B1 Ab) λw2 N cs fz z b2 ab a1 a6=>?_;have o:=T6.kf z;have hF:=o.s.feed (Post:=Post) (i:=0) (a:=⟨1,1,vy,[]⟩) U iW iW iW iW (Ad1 (bB _)) Alq ((Aj2 1).ok Aa) (x:=ak0) (kind:=1) (n:=1) Ad Ad (T6.s.bin z b2 ab a1 a6);simp[Ke]at hF;walk_nrm;refine A0 hF iW Ac iW Ah ?_;rintro W v7⟨σ1,l1,al,S,M,hw⟩;have o:=o.mvS S M;have n7:=(n6.kf z).mvS M;walk_nrm;refine K9h ?_;refine G9s ?_;refine Trb ?_;refine Jw (Gj (Xr ak0 1 1)) iW Ac iW iW (B1 Ab) λw2 N cs fz z b2 ab a1 a6=>?_;have G:=o.kf z;have hF:=G.t.feed (Post:=Post) (i:=0) (a:=⟨1,1,vy,[]⟩) U iW iW iW iW (Ad1 (bB _)) Alq ((Aj2 1).ok Aa) (x:=ak0) (kind:=1) (n:=1) Ad Ad (o.t.bin z b2 ab a1 a6);simp[Ke]at hF;walk_nrm;refine A0 hF iW Ac iW Ah ?_;rintro W P⟨ak,ay,Y,S,M,aq⟩;have G:=G.mvT S M;have n8:=(n7.kf z).mvT M;walk_nrm;refine K9h ?_;have R0:=BO ak0 (kind:=1) Ad Ad 1;have c7:=SL hw (Aj2 1) (by rw[R0.4];decide) R0.p R0.d;obtain⟨g,V,_,_,rfl,rfl⟩:=Tz.hs.both iW (x:=ak0) (kind:=1) (z:=1) Ad Ad Ad hw c7.5 aq m.t.tr.1 m.t.tr.2;have c8:=Aay aq;refine G9s ?_;refine Wad ?_;refine A0 (G.s.take (i:=0) (a:=⟨1,1,vy,V⟩) iW PK.1) iW Ac iW Af ?_;rintro W c9⟨N,bc,_,S,M,_⟩;have I:=G.mvS S M;have n9:=n8.mvS M;walk_nrm;refine K9h ?_;refine G9s ?_;refine Wad ?_;refine A0 (I.t.take (i:=0) (a:=⟨1,1,vy,V⟩) iW PK.1) iW Ac iW Af ?_;rintro W dk⟨N,F4,_,S,M,_⟩;have az:=I.mvT S M;have bd:=n9.mvT M;walk_nrm;refine K9h ?_;have cm:Z6 (ak.3,ak.4) (σ1.3,σ1.4):=by have:=Z6.refl g.tr;rw[g.1.1,g.1.2]at this⊢;exact this
 refine G9s ?_;refine Wad ?_;refine A0 (az.s.sameP az.t g.tr cm) iW Ac iW Af ?_;rintro W dp⟨rfl,af⟩;walk_nrm;refine T03 ?_;have b8:=az.kf af;have hT:=b8.t.tree (Stop:=Pq Post) g.5.pos;rw[c8]at hT;refine G9s ?_;refine V2g ?_;refine A0 hT iW Ac iW Af ?_;rintro W dq⟨dr,rfl,bf⟩;refine Haw ?_;refine N2m ?_;iterate 6 (refine V2g ?_)
 refine N2i ?_;refine Pv2 ?_;have H:=b8.kf bf;have bg:=(bd.kf af).kf bf;obtain⟨q0,q1⟩:=R8 h (n:=200) Ad;refine G9s ?_;refine Wad ?_;refine A0 (Al7 h 200 bn Ad Ad) iW Ac iW Af ?_;rintro W w2⟨rfl,z⟩;have b5:=H.kf z;have b6:=bg.kf z;walk_nrm;refine A0 (b5.s.stop b6.h (Ot h 200) Aa) iW Ac iW Af ?_;rintro W dt⟨rfl,S,M⟩;have b5:=b5.mvS S M;have b6:=b6.mvS M;walk_nrm;refine K9h ?_;refine G9s ?_;refine T03 ?_;refine Av ?_;clear m T6 o G I az b8 H n4 n6 n7 n8 n9 bd bg;refine As7 (P:=λb9=>SlG (xh j L cA) h snap keep D1 H1 os ot b9/\b9 21=zx iU) iW ⟨⟨iW,iW,iW,iW,iW,iW,iW,iW,iW,iW⟩,iW⟩ λb9⟨cn,cp⟩=>?_;have bh:=Arn (Post:=Post) U r cn cp hA bk bm hb bo ⟨A,B,_,ak,bc,F4,hD,b5,b6,zk ⟨iW,g.stop _⟩⟩;simp[stH,rH,Tryz.f3,bT,Code.one,Code.two]at bh;refine Fe bh ?_;rintro Q a du⟨rfl,s,⟨dv,rfl,k,cq⟩,i,hi,A',B',σ',τ',dw,dy,_,cu,cw,hL⟩;have n:HE σ' τ' s:=by obtain⟨rfl,Z⟩|⟨_,Z⟩:=hL;exact Z.he Aa;exact Z
 simp[Az];rw[HT,k.7,k.9,k.8,k.10,k.6,cq,k.4];refine G9s ?_;iterate 7 (refine V2g ?_)
 refine A0 (Aqm (Post:=Post) U r cu cw n.1 n.2 n.3 n.L n.d ba.1 ba.2) iW Ac iW Af ?_;rintro x bq⟨rfl,J⟩;walk_nrm;refine T03 ?_;exact Ca ⟨iW,iW,iW,J⟩
end
def Anz(h:w.ShapedOpen prog):∃m,w.cell? ⟨1,0,zt⟩=je (iS m):=
 cell_of_shapedOpen_int (zero:=#[iS 0]) h (of_decide_eq_true Q) Q T Q Q underlying3
section
variable {l:iO} {post:iP}
def Amp(W:qi)(l:iO)(L:qi):Prop:=XJ L/\(∀k,L.cell? ⟨4,k,zt⟩=(Ik W l).cell? ⟨4,k,zt⟩)/\E8 L
def Atb:Hq D8 (Amp W l) where
 gives:=λs w V c=>utf.1 s w V.1 c
 kept:=λ{B w b} a D h=>have d:8<=B:=a
  ⟨utf.2 a D h.1,λk=>(D.cell Ai).trans (h.2.1 k),by have ⟨t,f,e⟩:=h.2.2;exact⟨t,f,(D.5 2 Z).trans e⟩⟩
 size:=λ{w} h=>utf.3 h.1
def HW(S:Z4 W l)(post:iP):Fh where
 post:=post
 In:=λq=>Jf W q/\∀q',Jf (Ik W l) q'->¬J0L W l q'->q≠Ha S.n q'
 W0:=W
 ex:=λa h=>h.1
 exO:=λr h=>h.1
 exM:=λq h=>by
  cases q with
  |cell a=>exact zk ⟨_,T⟩
  |obj r=>exact qx ⟨_,T⟩
  |_=>exact h.1.elim
 num:=iY l
 nf:=λi=>l.getD i 0
def NY(W:qi)(l:iO):Prop:=∀kind,kind=1∨kind=2∨kind=3->∃g∈l,8<=g/\Qy W kind g (TT kind)
def Ahl(S:Z4 W l){r}(h:r∈l)(I:8<=r):8<=l.idxOf r:=Nat.le_of_not_lt λY=>by have C:=S.3 _ Y;grind
def Eg{k}(Y:l[i]?=je r)(I:8<=i)(M:W.cell? (E r k)=je v)(b:Nf v=jz):(Ik W l).cell? (E i k)=je v/\¬J0L W l (.cell (E i k)):=by refine⟨?_,?_⟩;rw[X1 Y,M,aI];simp[Pa,Nat.not_lt.2 I,OY,b];rintro⟨F,c,D,x,e,_,C,J,T⟩;grind
def PAL(S:Z4 W l)(ht:NY W l)(post:iP):PA (iY l) (Amp W l) where
 H:=HW S post
 TA:=TAL l
 base:=Ik W l
 J0:=J0L W l
 rows:=S.rows
 jin:=Aj3
 lt:=λi h=>h.2
 ge:=λi h=>h.1
 tl:=λL hL kind hk=>by
  obtain⟨g,hg,h8,⟨o,h4,hc⟩⟩:=ht kind hk;have hi:=LP hg;have hi8:=Ahl S hg h8;refine⟨l.idxOf g,o,⟨hi8,eU.2 hg⟩,?_,λj x hx=>?_⟩
  ·rw[hL.2.1 kind,X1 (S.3 4 Z),h4]
   rfl
  ·obtain⟨a1,a2,a3⟩:=hc j x hx;exact⟨⟨(Eg hi hi8 a1 T).1,(Eg hi hi8 a2 T).1,(Eg hi hi8 a3 T).1⟩,(Eg hi hi8 a1 T).2,(Eg hi hi8 a2 T).2,(Eg hi hi8 a3 T).2⟩
def Ai9(S)(R:NY W l){e X}(y:Adi W e X)(p:∀b,e=je b->b.block∈l)(I:∀b off x,AkW W b off x->8<=b):SS (PAL S R post) (e.map (Yx l)) X:=λi x Z=>by obtain⟨b,off,rfl,h,a⟩:=y i x Z;have D:=p _ T;have V:=LP D;have H:=Ahl S D (I _ _ _ h);exact⟨l.idxOf b,off,T,⟨⟨H,eU.2 D⟩,(Eg V H h.1 T).1,(Eg V H h.2 T).1,(Eg V H h.3 T).1,(Eg V H h.4 T).1,(Eg V H h.5 T).1,(Eg V H h.6 T).1,(Eg V H h.1 T).2,(Eg V H h.2 T).2,(Eg V H h.3 T).2,(Eg V H h.4 T).2,(Eg V H h.5 T).2,(Eg V H h.6 T).2⟩,a⟩
structure Laid(W):Prop where
 tabs:XJ W
 sch:E8 W
 table:Table W
 ml:∃m,W.cell? ⟨1,0,zt⟩=je (iS m)
 rq:∀k,1<=k/\k<=7->W.cell? ⟨0,k * 3+1,zt⟩=je (zx (rqS k))
 an:∀k,1<=k/\k<=7->W.cell? ⟨3,k * 3+1,zt⟩=je (zx (anS k))
def Aeo(S:Z4 W l)(L:Laid W):Cx (Amp W l) (iY l) Dy iV (Bb (TAL l) (Ik W l)):=by
 refine⟨⟨λi h=>h.elim,λa h=>h.elim,λr h=>h.elim,λm h=>h⟩,λv q s=>?_,λi h=>h.elim,by rw[Cz,Jv];exact aA _,S.len⟩;have D:∀i<8,v.1[i]?=(Ik W l).1[i]?:=λi V=>by rw[q i V,B6];cases(Ik W l).1[i]? with|none=>rfl|some o=>simp[TAL,show ¬8<=i by omega]
 have B:∀{g k} {x},g<8->W.cell? (E g k)=je x->Nf x=jz->v.cell? (E g k)=je x:=λ{g k x} G h e=>by rw[rp (a:=(E g k)) (D g G),X1 (S.3 g G),h,aI];simp[Pa,G,Ow e]
 obtain⟨m,n⟩:=L.4;have d:Table v:=by obtain⟨t,X,M⟩:=L.3;refine⟨t,X,?_⟩;rw[D 7 Z,Pb (S.3 7 Z) M];congr 2;refine bZ λj=>?_;rw[aM];cases f:H9[j]? with|none=>rfl|some x=>have:=cV.1 PO _ (aS Ah5);simp[Pa,Ow this]
 exact { size:=s,tabs:=⟨⟨⟨λc h=>B Z (L.1.1.1 c h) T,λi h=>⟨B Z (L.1.1.2 i h).1 T,B Z (L.1.1.2 i h).2 T⟩⟩,(aD S.len s)⟩,λk=>rp (w:=Ik W l) (a:=⟨4,k,zt⟩) (D 4 Z),by obtain⟨t,f,M⟩:=L.2;have b:∀s,Q3 l (zx s)=zx s:=λs=>Ow T;exact⟨t,f,by rw[D 2 Z,Pb (S.3 2 Z) M];simp[Pa,b]⟩⟩,table:=d,rq:=λk h=>B Z (L.5 k h) T,an:=λk h=>B Z (L.6 k h) T,ml:=⟨m,B Z n T⟩ }
def Acy{P}{b:Frame}{a c u}(z:b.kind=.normal)(y:a.defers = [])(I:P.funcs[b.fn]?=je u)(Y:(results u a.tmps).run P w=.ok v w)(N:(results u a.tmps).events P w #[]=#[])(V:P.inits.idxOf? b.fn=zt):stepG P jz (G { b.at a c with mode:=.returning } []) w=.ended (.done v) w #[]:=by simp[G,stepG,unwind,doReturn,Frame.at,z,y,I,Y,N,V,seen,GStep.after]
def Anp:prog.inits.idxOf? (base 3).fn=zt:=Q
def QM(S:Z4 W l):Plain (Ik W l):=λi o O=>by obtain⟨_,_,_,_,_,_,rfl⟩:=Wc S O;trivial
set_option maxRecDepth 100000 in
def As4(S)(R:NY W l)(m:∀B,iZ W.1<=iZ B.1->(∀i<iZ W.1,B.1[i]?=W.1[i]?)->FJ W B->post (o0 jz) B){a}(o:a.defers = [])(Z:a.tmps.getD 8 re=o0 jz)(E:Ax (Bb (TAL l) (Ik W l)) O (λj=>iY l<=j))(c):EV prog jz Dy (Pq (PAL S R post)) (G { (base 3).at a c with mode:=.returning } []) O:=by
 refine EV.stop λd p N D=>?_;refine EN.ret T λn w g s H=>⟨o0 jz,λM=>?_,λM=>?_⟩;have f:a.1[8]?=je (o0 jz):=by rw[cL]at Z;cases h:a.1[8]? with|none=>rw[h]at Z;cases Z|some y=>grind
 have e:Bt n (G { (base 3).at a c with mode:=.returning } [])=G { (base 3).at (B9 n a) (c.map (Dh n)) with mode:=.returning } []:=rfl;rw[e,Acy T (by simp[B9,o]) func3 (results_tmp Ac _ _ _) (events_results_tmp Ac _ _) Anp];simp[B9,cL,f];have b:=DD (Gs S.rows) p (⟨E.1,E.2,E.3,E.4,E.5⟩);rw[Jq S.rows]at b;have I:=S.stand (H:=HW S post) T (λq C J=>⟨C,J⟩) s b H.4 λi r V=>by rw[(H.5 i ((aF.1 V).1)).1];show l.getD i 0=r;grind
 refine m (w.at M) ?_ I ⟨(s.1 0).7.trans b.1,(s.1 0).8.trans b.3⟩;show iZ W.1<=iZ w.1;grind
def f4(x y z p:S):Nat->S
 |0=>x
 |1=>y
 |2=>z
 |3=>p
 |_=>re
set_option maxRecDepth 100000 in
def Asr(x y z p):({ tmps:=#[x,y,z,p]++Array.replicate (Tryz.f3.7 - (#[x,y,z,p]:iJ).size) re,defers:=[] }:Act)=HT (f4 x y z p):=Q
set_option maxRecDepth 100000 in
def PG(S:Z4 W l)(R:NY W l)(L:Laid W){w p N a xs}(y:Adi W w xs)(Y:iY xs=H)(K:H<=f)(D:H<=250000)(j:Ov p)(F:Ov N)(n:Ov a)(I:∀d off x,AkW W d off x->8<=d)(z:∀d,w=je d->d.block∈l)(o:∀g,iZ W.1<=iZ g.1->(∀i<iZ W.1,g.1[i]?=W.1[i]?)->FJ W g->post (o0 jz) g):Go.Pair.Ends prog post iV 0 (G (ur prog 3 #[xh w H f,iS p,iS N,iS a] .normal) []) W:=by
 have B:Shown l (xh w H f):=qx ⟨_,_,_,iW,z⟩;have q:∀b(m k:Nat),Q3 l (xh b m k)=xh (b.map (Yx l)) m k:=λb m k=>by cases b<;>rfl
 have U:=OC S.agr B;have P:=XN B;rw[q]at U P;have s:=Aa7 (Post:=PAL S R post) (cA:=f) (f:=f4 (xh (w.map (Yx l)) H f) (iS p) (iS N) (iS a)) Atb (λw h=>h.2.2) (Aeo S L) (by rw[Cz,Jv]) (λi V=>by obtain⟨c,a1,fz,C⟩:=S.2 i (aS (S.3 i V));exact⟨_,_,_,by rw[B6,Pb (S.3 i V) C];simp[TAL,show ¬8<=i by omega];exact⟨iW,iW,iW⟩⟩) (Ai9 S R y z I) Y K D j F n iW iW iW iW;have t:EV prog jz Dy (Pq (PAL S R post)) (G (ur prog 3 #[xh (w.map (Yx l)) H f,iS p,iS N,iS a] .normal) []) (Bb (TAL l) (Ik W l)):=by rw[enter_at (c:=rH 0) _ func3 iW,Asr];exact s (base 3) [] [] iW iW λv A a6⟨E,M,Z,O⟩=>by subst E;exact As4 S R o M Z O
 have Q:EN prog (HW S post) (PAL S R post).JX (G (ur prog 3 #[xh (w.map (Yx l)) H f,iS p,iS N,iS a] .normal) []) (Ik W l):=by apply EN.ofP (QM S);have:=EV.show (PAL S R post).6 (PAL S R post).5 (Gs S.rows) t;rwa[Jq (PAL S R post).5]at this
 have u:=Q S.n W iV (S.side (λT C J X=>X.2 T C J iW) (by rw[E6,←Mp];simp[cD,bF,cM,P,B0])) ⟨λl h=>h.elim,⟨λb A h=>h.elim,λr h=>h⟩,λl h=>h.elim,⟨λb _=>rfl,λr c v fz h _=>⟨c,h,iW⟩,λr a7 _ h _=>h⟩,λi V=>⟨?_,?_⟩⟩;rw[E6,←Mp]at u;simp[cD,bF,cM,U,B0]at u;exact u;have e:i<iY l:=V;rw[S.agr i _ (aG e)];show _=l.getD i 0;rw[dF,aG e];rfl;have e:i<iY l:=V;show l.getD i 0<_;rw[dF,aG e];exact S.lt _ (bP e)
end
end Go.Proofs.Y
